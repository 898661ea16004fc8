/- Package ladder: pick, swap, double, add. -/
import Derived.Test.YtcnehbfcagghpaaLadF
namespace Go.Proofs.Ytcnehbfcagghpaa
open Go Go.RowKit
open Edw (nA nS nM)
theorem fe_if (b : Bool) {cs ds : List Value} {m n : Nat} (h1 : Fe El cs m) (h2 : Fe El ds n) : Fe El (if b then cs else ds) (if b then m else n) := by
  cases b
  · exact h2
  · exact h1
set_option maxRecDepth 20000 in
set_option maxHeartbeats 4000000 in
theorem frpick_any (b : Bool) (x1 z1 x2 z2 : List Value) (m1 n1 m2 n2 : Nat) (w : World) (h1 : Fe El x1 m1) (h2 : Fe El z1 n1) (h3 : Fe El x2 m2) (h4 : Fe El z2 n2) : Calls Try.prog 39 #[.bool b, .agg (x1 ++ z1).toArray, .agg (x2 ++ z2).toArray] w fun e w' => e = .returned (.agg ((if b then x1 else x2) ++ (if b then z1 else z2)).toArray) ∧ Kp0 w w' := by
  obtain ⟨p, hp⟩ : ∃ v, v = (if b then x1 else x2) := ⟨_, rfl⟩
  have CP : Hid (∀ w : World, Calls Try.prog 48 #[.bool b, .agg x1.toArray, .agg x2.toArray] w fun e w' => e = .returned (.agg p.toArray) ∧ Kp0 w w') := Lib.hid (fun w => by rw [hp]; exact pick_fe b x1 x2 m1 m2 w h1 h3)
  have FCP : Hid (Fe El p (if b then m1 else m2)) := Lib.hid (by rw [hp]; exact fe_if b h1 h3)
  rw [← hp]
  clear hp
  obtain ⟨q, hq⟩ : ∃ v, v = (if b then z1 else z2) := ⟨_, rfl⟩
  have CQ : Hid (∀ w : World, Calls Try.prog 48 #[.bool b, .agg z1.toArray, .agg z2.toArray] w fun e w' => e = .returned (.agg q.toArray) ∧ Kp0 w w') := Lib.hid (fun w => by rw [hq]; exact pick_fe b z1 z2 n1 n2 w h2 h4)
  have FCQ : Hid (Fe El q (if b then n1 else n2)) := Lib.hid (by rw [hq]; exact fe_if b h2 h4)
  rw [← hq]
  clear hq
  have H1 := Lib.hid h1
  have H2 := Lib.hid h2
  have H3 := Lib.hid h3
  have H4 := Lib.hid h4
  clear h1 h2 h3 h4
  go_enter Try.func39, Try.ntmps39
  go_upto_region 1 with (fail)
  obtain ⟨w0, hw0⟩ : ∃ w0, w0 = (((w.alloc (.cells ((x1 ++ z1)).toArray 60)).alloc (.cells ((x2 ++ z2)).toArray 60)).alloc (.cells (((kis .u64 z5) ++ (kis .u64 z5))).toArray 60)) := ⟨_, rfl⟩
  have B4_0 : Hid (Blk w0 w.heap.size 60 ((x1 ++ z1))) := Lib.hid (by rw [hw0]; exact (blk_n (w := w) (by simp)).kp0 ((((Kp.refl _ _).alloc _).alloc _)))
  have B5_0 : Hid (Blk w0 (w.heap.size + 1) 60 ((x2 ++ z2))) := Lib.hid (by rw [hw0]; exact (blk_n (w := (w.alloc (.cells ((x1 ++ z1)).toArray 60))) (by simp)).kp0 (((Kp.refl _ _).alloc _)))
  have B6_0 : Hid (Blk w0 (w.heap.size + 1 + 1) 60 (((kis .u64 z5) ++ (kis .u64 z5)))) := Lib.hid (by rw [hw0]; exact blk_n (w := ((w.alloc (.cells ((x1 ++ z1)).toArray 60)).alloc (.cells ((x2 ++ z2)).toArray 60))) (by simp))
  have KW_0 : Hid (Kp0 w w0) := Lib.hid (by rw [hw0]; exact ((((Kp.refl _ w).alloc _).alloc _).alloc _))
  change Code.wp _ _ _ _ (((w.alloc (.cells ((x1 ++ z1)).toArray 60)).alloc (.cells ((x2 ++ z2)).toArray 60)).alloc (.cells (((kis .u64 z5) ++ (kis .u64 z5))).toArray 60))
  rw [← hw0]
  clear hw0
  have HK1_0 : Hid (Kp0 w0.drew w0.drew) := Lib.hid (Kp.refl _ _)
  refine wp_region_px 14 [13] (fun w' : World => Kp0 w0.drew w') (.quiet 0 (.quiet 1 (.quiet 3 (.quiet 6 (.quiet 7 (.quiet 9 (.quiet 2 (.quiet 4 (.quiet 8 (.quiet 10 (.eff 5 (.eff 11 (.quiet 12 (.wall 13 .done)))))))))))))) (by kernel_rfl) (by kernel_rfl) (by kernel_rfl) (by kernel_rfl) (fun _ d _ _ _ h => by cases d <;> exact h) HK1_0.out ?_
  refine px_quiet (v := ?_) rfl (by rfl) (fun wq hwq => ?_) rfl ?_; rotate_left 1; (focus (go_simp; try (with_reducible rfl); done)); try simp only [List.setIfInBounds_toArray, List.set_cons_zero, List.set_cons_succ]
  refine px_quiet (v := ?_) rfl (by rfl) (fun wq hwq => ?_) rfl ?_; rotate_left 1; (focus (go_simp; try (with_reducible rfl); done)); try simp only [List.setIfInBounds_toArray, List.set_cons_zero, List.set_cons_succ]
  refine px_quiet (v := ?_) rfl (by rfl) (fun wq hwq => ?_) rfl ?_; rotate_left 1; (focus (go_simp; try (with_reducible rfl); done)); try simp only [List.setIfInBounds_toArray, List.set_cons_zero, List.set_cons_succ]
  refine px_quiet (v := ?_) rfl (by rfl) (fun wq hwq => ?_) rfl ?_; rotate_left 1; (focus (go_simp; try (with_reducible rfl); done)); try simp only [List.setIfInBounds_toArray, List.set_cons_zero, List.set_cons_succ]
  refine px_quiet (v := ?_) rfl (by rfl) (fun wq hwq => ?_) rfl ?_; rotate_left 1; (focus (go_simp; try (with_reducible rfl); done)); try simp only [List.setIfInBounds_toArray, List.set_cons_zero, List.set_cons_succ]
  refine px_quiet (v := ?_) rfl (by rfl) (fun wq hwq => ?_) rfl ?_; rotate_left 1; (focus (go_simp; try (with_reducible rfl); done)); try simp only [List.setIfInBounds_toArray, List.set_cons_zero, List.set_cons_succ]
  refine px_quiet (v := .agg (x1).toArray) rfl (by rfl) (fun wq hwq => run_load_mid 40 (.tmp 8) rfl w.heap.size 0 _ rfl (blk_l (B4_0.out.kp0 ((Kp.refl _ w0).drew.tr hwq))) _ Try.underlying40 rfl H1.out.2.2.1) rfl ?_
  try simp only [List.setIfInBounds_toArray, List.set_cons_zero, List.set_cons_succ]
  refine px_quiet (v := .agg (x2).toArray) rfl (by rfl) (fun wq hwq => run_load_mid 40 (.tmp 10) rfl (w.heap.size + 1) 0 _ rfl (blk_l (B5_0.out.kp0 ((Kp.refl _ w0).drew.tr hwq))) _ Try.underlying40 rfl H3.out.2.2.1) rfl ?_
  try simp only [List.setIfInBounds_toArray, List.set_cons_zero, List.set_cons_succ]
  refine px_quiet (v := .agg (z1).toArray) rfl (by rfl) (fun wq hwq => run_load_mid 40 (.tmp 14) rfl w.heap.size 5 _ rfl (blk_r (fe_len H1.out) (B4_0.out.kp0 ((Kp.refl _ w0).drew.tr hwq))) _ Try.underlying40 rfl H2.out.2.2.1) rfl ?_
  try simp only [List.setIfInBounds_toArray, List.set_cons_zero, List.set_cons_succ]
  refine px_quiet (v := .agg (z2).toArray) rfl (by rfl) (fun wq hwq => run_load_mid 40 (.tmp 16) rfl (w.heap.size + 1) 5 _ rfl (blk_r (fe_len H3.out) (B5_0.out.kp0 ((Kp.refl _ w0).drew.tr hwq))) _ Try.underlying40 rfl H4.out.2.2.1) rfl ?_
  try simp only [List.setIfInBounds_toArray, List.set_cons_zero, List.set_cons_succ]
  refine px_eff rfl (by rfl) (fun K hK => ?_)
  go_simp
  refine (CP.out _).mono ?_
  rintro e ww2 ⟨rfl, hk⟩
  simp only []
  have HK2 : Hid (Kp0 w0.drew ww2) := Lib.hid (HK1_0.out.tr hk)
  clear hk
  refine hK (fun w' : World => Kp0 w0.drew w') _ _ (fun x h => h) HK2.out ?_
  clear hK K
  refine px_eff rfl (by rfl) (fun K hK => ?_)
  go_simp
  refine (CQ.out _).mono ?_
  rintro e ww3 ⟨rfl, hk⟩
  simp only []
  have HK3 : Hid (Kp0 w0.drew ww3) := Lib.hid (HK2.out.tr hk)
  clear hk
  refine hK (fun w' : World => Kp0 w0.drew w') _ _ (fun x h => h) HK3.out ?_
  clear hK K
  refine px_quiet (v := .agg ((p ++ q)).toArray) rfl (by rfl) (fun wq hwq => run_build_fr wq _ _ 12 18 rfl (p) (q) (fe_len FCP.out) (fe_len FCQ.out) rfl rfl) rfl ?_
  try simp only [List.setIfInBounds_toArray, List.set_cons_zero, List.set_cons_succ]
  refine px_wall rfl (by rfl) (fun K hK => ?_)
  refine wp_store_blk 60 (.tmp 6) (.tmp 19) rfl (w.heap.size + 1 + 1) _ (((kis .u64 z5) ++ (kis .u64 z5))) ((p ++ q)) rfl rfl (B6_0.out.kp0 ((Kp.refl _ w0).drew.tr HK3.out)) (info_fr FCP.out FCQ.out) (len_of (T := 60) (info_fr fe_z5 fe_z5) (info_fr FCP.out FCQ.out)) (ones_app FCP.out.2.2.2 FCQ.out.2.2.2) ?_
  intro ww4 hA hS
  have B4_4 := Lib.hid ((B4_0.out.kp0 ((Kp.refl _ w0).drew.tr HK3.out)).keep hS (fun e => by omega))
  have B5_4 := Lib.hid ((B5_0.out.kp0 ((Kp.refl _ w0).drew.tr HK3.out)).keep hS (fun e => by omega))
  have B6_4 := Lib.hid hA
  have KW_4 : Hid (Kp0 w ww4) := Lib.hid ((KW_0.out.tr ((Kp.refl _ w0).drew.tr HK3.out)).trans hS (fun _ _ h => h) (fun i hi e => by omega))
  clear hA hS
  refine hK (fun _ => True) _ _ trivial ?_
  clear hK K
  refine px_done ?_
  go_wp2
  refine ret_blk 6 60 60 (w.heap.size + 1 + 1) ((p ++ q)) _ rfl rfl B6_4.out Try.underlying60 rfl (info_fr FCP.out FCQ.out) rfl ?_
  exact ⟨rfl, KW_4.out⟩
set_option maxRecDepth 20000 in
set_option maxHeartbeats 4000000 in
theorem frswap_any (b : Bool) (x1 z1 x2 z2 : List Value) (m1 n1 m2 n2 : Nat) (w : World) (h1 : Fe El x1 m1) (h2 : Fe El z1 n1) (h3 : Fe El x2 m2) (h4 : Fe El z2 n2) : Calls Try.prog 28 #[.bool b, .agg (x1 ++ z1).toArray, .agg (x2 ++ z2).toArray] w fun e w' => e = .returned (.tuple #[.agg ((if b then x2 else x1) ++ (if b then z2 else z1)).toArray, .agg ((if b then x1 else x2) ++ (if b then z1 else z2)).toArray]) ∧ Kp0 w w' := by
  obtain ⟨p2, hp2⟩ : ∃ v, v = (if b then x2 else x1) := ⟨_, rfl⟩
  obtain ⟨q2, hq2⟩ : ∃ v, v = (if b then z2 else z1) := ⟨_, rfl⟩
  obtain ⟨p1, hp1⟩ : ∃ v, v = (if b then x1 else x2) := ⟨_, rfl⟩
  obtain ⟨q1, hq1⟩ : ∃ v, v = (if b then z1 else z2) := ⟨_, rfl⟩
  have CP : Hid (∀ w : World, Calls Try.prog 39 #[.bool b, .agg (x2 ++ z2).toArray, .agg (x1 ++ z1).toArray] w fun e w' => e = .returned (.agg (p2 ++ q2).toArray) ∧ Kp0 w w') := Lib.hid (fun w => by rw [hp2, hq2]; exact frpick_any b x2 z2 x1 z1 m2 n2 m1 n1 w h3 h4 h1 h2)
  have FCP : Hid (Fe El p2 (if b then m2 else m1) ∧ Fe El q2 (if b then n2 else n1)) := Lib.hid (by rw [hp2, hq2]; exact ⟨fe_if b h3 h1, fe_if b h4 h2⟩)
  have CQ : Hid (∀ w : World, Calls Try.prog 39 #[.bool b, .agg (x1 ++ z1).toArray, .agg (x2 ++ z2).toArray] w fun e w' => e = .returned (.agg (p1 ++ q1).toArray) ∧ Kp0 w w') := Lib.hid (fun w => by rw [hp1, hq1]; exact frpick_any b x1 z1 x2 z2 m1 n1 m2 n2 w h1 h2 h3 h4)
  have FCQ : Hid (Fe El p1 (if b then m1 else m2) ∧ Fe El q1 (if b then n1 else n2)) := Lib.hid (by rw [hp1, hq1]; exact ⟨fe_if b h1 h3, fe_if b h2 h4⟩)
  rw [← hp2, ← hq2, ← hp1, ← hq1]
  clear hp2 hq2 hp1 hq1
  have H1 := Lib.hid h1
  have H2 := Lib.hid h2
  have H3 := Lib.hid h3
  have H4 := Lib.hid h4
  clear h1 h2 h3 h4
  go_enter Try.func28, Try.ntmps28
  go_upto_region 1 with (fail)
  obtain ⟨w0, hw0⟩ : ∃ w0, w0 = ((((w.alloc (.cells ((x1 ++ z1)).toArray 60)).alloc (.cells ((x2 ++ z2)).toArray 60)).alloc (.cells (((kis .u64 z5) ++ (kis .u64 z5))).toArray 60)).alloc (.cells (((kis .u64 z5) ++ (kis .u64 z5))).toArray 60)) := ⟨_, rfl⟩
  have B4_0 : Hid (Blk w0 w.heap.size 60 ((x1 ++ z1))) := Lib.hid (by rw [hw0]; exact (blk_n (w := w) (by simp)).kp0 (((((Kp.refl _ _).alloc _).alloc _).alloc _)))
  have B5_0 : Hid (Blk w0 (w.heap.size + 1) 60 ((x2 ++ z2))) := Lib.hid (by rw [hw0]; exact (blk_n (w := (w.alloc (.cells ((x1 ++ z1)).toArray 60))) (by simp)).kp0 ((((Kp.refl _ _).alloc _).alloc _)))
  have B6_0 : Hid (Blk w0 (w.heap.size + 1 + 1) 60 (((kis .u64 z5) ++ (kis .u64 z5)))) := Lib.hid (by rw [hw0]; exact (blk_n (w := ((w.alloc (.cells ((x1 ++ z1)).toArray 60)).alloc (.cells ((x2 ++ z2)).toArray 60))) (by simp)).kp0 (((Kp.refl _ _).alloc _)))
  have B7_0 : Hid (Blk w0 (w.heap.size + 1 + 1 + 1) 60 (((kis .u64 z5) ++ (kis .u64 z5)))) := Lib.hid (by rw [hw0]; exact blk_n (w := (((w.alloc (.cells ((x1 ++ z1)).toArray 60)).alloc (.cells ((x2 ++ z2)).toArray 60)).alloc (.cells (((kis .u64 z5) ++ (kis .u64 z5))).toArray 60))) (by simp))
  have KW_0 : Hid (Kp0 w w0) := Lib.hid (by rw [hw0]; exact (((((Kp.refl _ w).alloc _).alloc _).alloc _).alloc _))
  change Code.wp _ _ _ _ ((((w.alloc (.cells ((x1 ++ z1)).toArray 60)).alloc (.cells ((x2 ++ z2)).toArray 60)).alloc (.cells (((kis .u64 z5) ++ (kis .u64 z5))).toArray 60)).alloc (.cells (((kis .u64 z5) ++ (kis .u64 z5))).toArray 60))
  rw [← hw0]
  clear hw0
  have HK1_0 : Hid (Kp0 w0.drew w0.drew) := Lib.hid (Kp.refl _ _)
  refine wp_region_px 10 [8] (fun w' : World => Kp0 w0.drew w') (.quiet 0 (.quiet 1 (.quiet 2 (.quiet 4 (.quiet 5 (.quiet 6 (.eff 3 (.eff 7 (.wall 8 (.eff 9 .done)))))))))) (by kernel_rfl) (by kernel_rfl) (by kernel_rfl) (by kernel_rfl) (fun _ d _ _ _ h => by cases d <;> exact h) HK1_0.out ?_
  refine px_quiet (v := ?_) rfl (by rfl) (fun wq hwq => ?_) rfl ?_; rotate_left 1; (focus (go_simp; try (with_reducible rfl); done)); try simp only [List.setIfInBounds_toArray, List.set_cons_zero, List.set_cons_succ]
  refine px_quiet (v := .agg ((x2 ++ z2)).toArray) rfl (by rfl) (fun wq hwq => run_load_blk 60 (.tmp 5) rfl (w.heap.size + 1) _ ((x2 ++ z2)) rfl (B5_0.out.kp0 ((Kp.refl _ w0).drew.tr hwq)) _ Try.underlying60 rfl (info_fr H3.out H4.out)) rfl ?_
  try simp only [List.setIfInBounds_toArray, List.set_cons_zero, List.set_cons_succ]
  refine px_quiet (v := .agg ((x1 ++ z1)).toArray) rfl (by rfl) (fun wq hwq => run_load_blk 60 (.tmp 4) rfl w.heap.size _ ((x1 ++ z1)) rfl (B4_0.out.kp0 ((Kp.refl _ w0).drew.tr hwq)) _ Try.underlying60 rfl (info_fr H1.out H2.out)) rfl ?_
  try simp only [List.setIfInBounds_toArray, List.set_cons_zero, List.set_cons_succ]
  refine px_quiet (v := ?_) rfl (by rfl) (fun wq hwq => ?_) rfl ?_; rotate_left 1; (focus (go_simp; try (with_reducible rfl); done)); try simp only [List.setIfInBounds_toArray, List.set_cons_zero, List.set_cons_succ]
  refine px_quiet (v := .agg ((x1 ++ z1)).toArray) rfl (by rfl) (fun wq hwq => run_load_blk 60 (.tmp 4) rfl w.heap.size _ ((x1 ++ z1)) rfl (B4_0.out.kp0 ((Kp.refl _ w0).drew.tr hwq)) _ Try.underlying60 rfl (info_fr H1.out H2.out)) rfl ?_
  try simp only [List.setIfInBounds_toArray, List.set_cons_zero, List.set_cons_succ]
  refine px_quiet (v := .agg ((x2 ++ z2)).toArray) rfl (by rfl) (fun wq hwq => run_load_blk 60 (.tmp 5) rfl (w.heap.size + 1) _ ((x2 ++ z2)) rfl (B5_0.out.kp0 ((Kp.refl _ w0).drew.tr hwq)) _ Try.underlying60 rfl (info_fr H3.out H4.out)) rfl ?_
  try simp only [List.setIfInBounds_toArray, List.set_cons_zero, List.set_cons_succ]
  refine px_eff rfl (by rfl) (fun K hK => ?_)
  go_simp
  refine (CP.out _).mono ?_
  rintro e ww2 ⟨rfl, hk⟩
  simp only []
  have HK2 : Hid (Kp0 w0.drew ww2) := Lib.hid (HK1_0.out.tr hk)
  clear hk
  refine hK (fun w' : World => Kp0 w0.drew w') _ _ (fun x h => h) HK2.out ?_
  clear hK K
  refine px_eff rfl (by rfl) (fun K hK => ?_)
  go_simp
  refine (CQ.out _).mono ?_
  rintro e ww3 ⟨rfl, hk⟩
  simp only []
  have HK3 : Hid (Kp0 w0.drew ww3) := Lib.hid (HK2.out.tr hk)
  clear hk
  refine hK (fun w' : World => Kp0 w0.drew w') _ _ (fun x h => h) HK3.out ?_
  clear hK K
  refine px_wall rfl (by rfl) (fun K hK => ?_)
  refine wp_store_blk 60 (.tmp 6) (.tmp 11) rfl (w.heap.size + 1 + 1) _ (((kis .u64 z5) ++ (kis .u64 z5))) ((p2 ++ q2)) rfl rfl (B6_0.out.kp0 ((Kp.refl _ w0).drew.tr HK3.out)) (info_fr FCP.out.1 FCP.out.2) (len_of (T := 60) (info_fr fe_z5 fe_z5) (info_fr FCP.out.1 FCP.out.2)) (ones_app FCP.out.1.2.2.2 FCP.out.2.2.2.2) ?_
  intro ww4 hA hS
  have B4_4 := Lib.hid ((B4_0.out.kp0 ((Kp.refl _ w0).drew.tr HK3.out)).keep hS (fun e => by omega))
  have B5_4 := Lib.hid ((B5_0.out.kp0 ((Kp.refl _ w0).drew.tr HK3.out)).keep hS (fun e => by omega))
  have B6_4 := Lib.hid hA
  have B7_4 := Lib.hid ((B7_0.out.kp0 ((Kp.refl _ w0).drew.tr HK3.out)).keep hS (fun e => by omega))
  have KW_4 : Hid (Kp0 w ww4) := Lib.hid ((KW_0.out.tr ((Kp.refl _ w0).drew.tr HK3.out)).trans hS (fun _ _ h => h) (fun i hi e => by omega))
  clear hA hS
  refine hK (fun _ => True) _ _ trivial ?_
  clear hK K
  refine px_eff rfl (by rfl) (fun K hK => ?_)
  refine wp_store_blk 60 (.tmp 7) (.tmp 15) rfl (w.heap.size + 1 + 1 + 1) _ (((kis .u64 z5) ++ (kis .u64 z5))) ((p1 ++ q1)) rfl rfl B7_4.out (info_fr FCQ.out.1 FCQ.out.2) (len_of (T := 60) (info_fr fe_z5 fe_z5) (info_fr FCQ.out.1 FCQ.out.2)) (ones_app FCQ.out.1.2.2.2 FCQ.out.2.2.2.2) ?_
  intro ww5 hA hS
  have B4_5 := Lib.hid (B4_4.out.keep hS (fun e => by omega))
  have B5_5 := Lib.hid (B5_4.out.keep hS (fun e => by omega))
  have B6_5 := Lib.hid (B6_4.out.keep hS (fun e => by omega))
  have B7_5 := Lib.hid hA
  have KW_5 : Hid (Kp0 w ww5) := Lib.hid (KW_4.out.trans hS (fun _ _ h => h) (fun i hi e => by omega))
  clear hA hS
  refine hK (fun _ => True) _ _ (fun _ h => h) trivial ?_
  clear hK K
  refine px_done ?_
  go_wp2
  refine ret_blks 6 7 60 60 60 60 (w.heap.size + 1 + 1) (w.heap.size + 1 + 1 + 1) ((p2 ++ q2)) ((p1 ++ q1)) _ _ rfl rfl rfl B6_5.out B7_5.out Try.underlying60 rfl (info_fr FCP.out.1 FCP.out.2) Try.underlying60 rfl (info_fr FCQ.out.1 FCQ.out.2) rfl ?_
  exact ⟨rfl, KW_5.out⟩
set_option maxRecDepth 20000 in
set_option maxHeartbeats 4000000 in
theorem frdouble_any (x1 z1 : List Value) (m1 n1 : Nat) (w : World) (h1 : Fe El x1 m1) (h2 : Fe El z1 n1) : Calls Try.prog 29 #[.agg (x1 ++ z1).toArray] w fun e w' => ∃ cs ds, e = .returned (.agg (cs ++ ds).toArray) ∧ Fe El cs (Edw.pdX 57896044618658097711785492504343953926634992332820282019728792003956564819949 m1 n1) ∧ Fe El ds (Edw.pdZ 57896044618658097711785492504343953926634992332820282019728792003956564819949 m1 n1) ∧ Kp0 w w' := by
  have H1 := Lib.hid h1
  have H2 := Lib.hid h2
  clear h1 h2
  go_enter Try.func29, Try.ntmps29
  go_upto_region 1 with (fail)
  obtain ⟨w0, hw0⟩ : ∃ w0, w0 = ((w.alloc (.cells ((x1 ++ z1)).toArray 60)).alloc (.cells (((kis .u64 z5) ++ (kis .u64 z5))).toArray 60)) := ⟨_, rfl⟩
  have B1_0 : Hid (Blk w0 w.heap.size 60 ((x1 ++ z1))) := Lib.hid (by rw [hw0]; exact (blk_n (w := w) (by simp)).kp0 (((Kp.refl _ _).alloc _)))
  have B2_0 : Hid (Blk w0 (w.heap.size + 1) 60 (((kis .u64 z5) ++ (kis .u64 z5)))) := Lib.hid (by rw [hw0]; exact blk_n (w := (w.alloc (.cells ((x1 ++ z1)).toArray 60))) (by simp))
  have KW_0 : Hid (Kp0 w w0) := Lib.hid (by rw [hw0]; exact (((Kp.refl _ w).alloc _).alloc _))
  change Code.wp _ _ _ _ ((w.alloc (.cells ((x1 ++ z1)).toArray 60)).alloc (.cells (((kis .u64 z5) ++ (kis .u64 z5))).toArray 60))
  rw [← hw0]
  clear hw0
  go_cut [3, 4] (fun p3 p4 wx => ∃ g3 g4 : Nat, ∃ e3 e4 : List Value, p3 = .pointer (some ⟨g3, 0, none⟩) ∧ p4 = .pointer (some ⟨g4, 0, none⟩) ∧ (w.heap.size < g3 ∧ (w.heap.size + 1) < g3 ∧ w.heap.size < g4 ∧ (w.heap.size + 1) < g4 ∧ g3 ≠ g4 ∧ w.heap.size ≤ g3 ∧ w.heap.size ≤ g4) ∧ Fe El e3 (nA 57896044618658097711785492504343953926634992332820282019728792003956564819949 m1 n1) ∧ Fe El e4 (nS 57896044618658097711785492504343953926634992332820282019728792003956564819949 m1 n1) ∧ Blk wx g3 40 e3 ∧ Blk wx g4 40 e4 ∧ Blk wx w.heap.size 60 ((x1 ++ z1)) ∧ Blk wx (w.heap.size + 1) 60 (((kis .u64 z5) ++ (kis .u64 z5))) ∧ Kp0 w wx)
  case first =>
    have HK1_0 : Hid (Kp0 w0.drew w0.drew) := Lib.hid (Kp.refl _ _)
    refine wp_region_px 14 [] (fun w' : World => Kp0 w0.drew w') (.quiet 0 (.quiet 2 (.quiet 5 (.quiet 7 (.quiet 1 (.quiet 3 (.quiet 6 (.quiet 8 (.three 4 (.three 9 (.two 10 (.eff 11 (.eff 12 (.eff 13 .done))) 11 (.eff 10 (.eff 12 (.eff 13 .done)))) 10 (.two 9 (.eff 11 (.eff 12 (.eff 13 .done))) 11 (.eff 9 (.eff 12 (.eff 13 .done)))) 11 (.two 9 (.eff 10 (.eff 12 (.eff 13 .done))) 10 (.eff 9 (.eff 12 (.eff 13 .done))))) 10 (.two 4 (.two 9 (.eff 11 (.eff 12 (.eff 13 .done))) 11 (.eff 9 (.eff 12 (.eff 13 .done)))) 11 (.eff 4 (.eff 9 (.eff 12 (.eff 13 .done))))) 11 (.two 4 (.two 9 (.eff 10 (.eff 12 (.eff 13 .done))) 10 (.eff 9 (.eff 12 (.eff 13 .done)))) 10 (.eff 4 (.eff 9 (.eff 12 (.eff 13 .done)))))))))))))) (by kernel_rfl) (by kernel_rfl) (by kernel_rfl) (by kernel_rfl) (fun _ d _ _ _ h => by cases d <;> exact h) HK1_0.out ?_
    refine px_quiet (v := ?_) rfl (by rfl) (fun wq hwq => ?_) rfl ?_; rotate_left 1; (focus (go_simp; try (with_reducible rfl); done)); try simp only [List.setIfInBounds_toArray, List.set_cons_zero, List.set_cons_succ]
    refine px_quiet (v := ?_) rfl (by rfl) (fun wq hwq => ?_) rfl ?_; rotate_left 1; (focus (go_simp; try (with_reducible rfl); done)); try simp only [List.setIfInBounds_toArray, List.set_cons_zero, List.set_cons_succ]
    refine px_quiet (v := ?_) rfl (by rfl) (fun wq hwq => ?_) rfl ?_; rotate_left 1; (focus (go_simp; try (with_reducible rfl); done)); try simp only [List.setIfInBounds_toArray, List.set_cons_zero, List.set_cons_succ]
    refine px_quiet (v := ?_) rfl (by rfl) (fun wq hwq => ?_) rfl ?_; rotate_left 1; (focus (go_simp; try (with_reducible rfl); done)); try simp only [List.setIfInBounds_toArray, List.set_cons_zero, List.set_cons_succ]
    refine px_quiet (v := .agg (x1).toArray) rfl (by rfl) (fun wq hwq => run_load_mid 40 (.tmp 6) rfl w.heap.size 0 _ rfl (blk_l (B1_0.out.kp0 ((Kp.refl _ w0).drew.tr hwq))) _ Try.underlying40 rfl H1.out.2.2.1) rfl ?_
    try simp only [List.setIfInBounds_toArray, List.set_cons_zero, List.set_cons_succ]
    refine px_quiet (v := .agg (z1).toArray) rfl (by rfl) (fun wq hwq => run_load_mid 40 (.tmp 8) rfl w.heap.size 5 _ rfl (blk_r (fe_len H1.out) (B1_0.out.kp0 ((Kp.refl _ w0).drew.tr hwq))) _ Try.underlying40 rfl H2.out.2.2.1) rfl ?_
    try simp only [List.setIfInBounds_toArray, List.set_cons_zero, List.set_cons_succ]
    refine px_quiet (v := .agg (x1).toArray) rfl (by rfl) (fun wq hwq => run_load_mid 40 (.tmp 11) rfl w.heap.size 0 _ rfl (blk_l (B1_0.out.kp0 ((Kp.refl _ w0).drew.tr hwq))) _ Try.underlying40 rfl H1.out.2.2.1) rfl ?_
    try simp only [List.setIfInBounds_toArray, List.set_cons_zero, List.set_cons_succ]
    refine px_quiet (v := .agg (z1).toArray) rfl (by rfl) (fun wq hwq => run_load_mid 40 (.tmp 13) rfl w.heap.size 5 _ rfl (blk_r (fe_len H1.out) (B1_0.out.kp0 ((Kp.refl _ w0).drew.tr hwq))) _ Try.underlying40 rfl H2.out.2.2.1) rfl ?_
    try simp only [List.setIfInBounds_toArray, List.set_cons_zero, List.set_cons_succ]
    refine ⟨px_one rfl (by rfl) (fun K hK => ?_), px_one rfl (by rfl) (fun K hK => ?_), px_one rfl (by rfl) (fun K hK => ?_)⟩
    · go_simp
      refine (add_fe x1 z1 m1 n1 _ H1.out H2.out).mono ?_
      rintro e ww2 ⟨c2, rfl, hc, hk⟩
      simp only []
      have HC2 : Hid (Fe El c2 (nA 57896044618658097711785492504343953926634992332820282019728792003956564819949 m1 n1)) := Lib.hid hc
      clear hc
      have HK2 : Hid (Kp0 w0.drew ww2) := Lib.hid (HK1_0.out.tr hk)
      clear hk
      refine hK (fun w' : World => Kp0 w0.drew w') _ _ (fun x h => h) HK2.out ?_
      clear hK K
      refine ⟨px_one rfl (by rfl) (fun K hK => ?_), px_one rfl (by rfl) (fun K hK => ?_), px_one rfl (by rfl) (fun K hK => ?_)⟩
      · go_simp
        refine (sub_fe x1 z1 m1 n1 _ H1.out H2.out).mono ?_
        rintro e ww3 ⟨c3, rfl, hc, hk⟩
        simp only []
        have HC3 : Hid (Fe El c3 (nS 57896044618658097711785492504343953926634992332820282019728792003956564819949 m1 n1)) := Lib.hid hc
        clear hc
        have HK3 : Hid (Kp0 w0.drew ww3) := Lib.hid (HK2.out.tr hk)
        clear hk
        refine hK (fun w' : World => Kp0 w0.drew w') _ _ (fun x h => h) HK3.out ?_
        clear hK K
        refine ⟨px_one rfl (by rfl) (fun K hK => ?_), px_one rfl (by rfl) (fun K hK => ?_)⟩
        · go_simp
          refine hK (fun w' : World => Kp0 w0.drew w') _ _ (fun x h => h) (HK3.out.alloc _) ?_
          clear hK K
          have L3_4 : w0.drew.heap.size ≤ ww3.heap.size := HK3.out.size
          have HK4 : Hid (Kp0 w0.drew (ww3.alloc (.cells ((kis .u64 z5)).toArray 40))) := Lib.hid (HK3.out.alloc _)
          have B3_4 : Hid (Blk (ww3.alloc (.cells ((kis .u64 z5)).toArray 40)) ww3.heap.size 40 ((kis .u64 z5))) := Lib.hid (blk0 ww3 _ _)
          change PX.wp _ _ _ _ _ _ (ww3.alloc (.cells ((kis .u64 z5)).toArray 40))
          generalize (ww3.alloc (.cells ((kis .u64 z5)).toArray 40)) = ww4 at HK4 B3_4 ⊢
          refine px_eff rfl (by rfl) (fun K hK => ?_)
          go_simp
          refine hK (fun w' : World => Kp0 w0.drew w') _ _ (fun x h => h) (HK4.out.alloc _) ?_
          clear hK K
          have L4_5 : w0.drew.heap.size ≤ ww4.heap.size := HK4.out.size
          have N3_4_5 : ww3.heap.size < ww4.heap.size := B3_4.out.lt
          have HK5 : Hid (Kp0 w0.drew (ww4.alloc (.cells ((kis .u64 z5)).toArray 40))) := Lib.hid (HK4.out.alloc _)
          have B4_5 : Hid (Blk (ww4.alloc (.cells ((kis .u64 z5)).toArray 40)) ww4.heap.size 40 ((kis .u64 z5))) := Lib.hid (blk0 ww4 _ _)
          have B3_5 := Lib.hid (B3_4.out.kp0 ((Kp.refl (fun _ => False) ww4).alloc (.cells ((kis .u64 z5)).toArray 40)))
          change PX.wp _ _ _ _ _ _ (ww4.alloc (.cells ((kis .u64 z5)).toArray 40))
          generalize (ww4.alloc (.cells ((kis .u64 z5)).toArray 40)) = ww5 at HK5 B3_5 B4_5 ⊢
          refine px_eff rfl (by rfl) (fun K hK => ?_)
          refine wp_store_blk 40 (.tmp 3) (.tmp 10) rfl ww3.heap.size _ ((kis .u64 z5)) (c2) rfl rfl B3_5.out HC2.out.2.2.1 (len_of (T := 40) fe_z5.2.2.1 HC2.out.2.2.1) HC2.out.2.2.2 ?_
          intro ww6 hA hS
          have B3_6 := Lib.hid hA
          have B4_6 := Lib.hid (B4_5.out.keep hS (fun e => by omega))
          have HK6 : Hid (Kp0 w0.drew ww6) := Lib.hid (HK5.out.trans hS (fun _ _ h => h) (fun i hi e => by omega))
          clear hA hS
          refine hK (fun w' : World => Kp0 w0.drew w') _ _ (fun x h => h) HK6.out ?_
          clear hK K
          refine px_eff rfl (by rfl) (fun K hK => ?_)
          refine wp_store_blk 40 (.tmp 4) (.tmp 15) rfl ww4.heap.size _ ((kis .u64 z5)) (c3) rfl rfl B4_6.out HC3.out.2.2.1 (len_of (T := 40) fe_z5.2.2.1 HC3.out.2.2.1) HC3.out.2.2.2 ?_
          intro ww7 hA hS
          have B3_7 := Lib.hid (B3_6.out.keep hS (fun e => by omega))
          have B4_7 := Lib.hid hA
          have HK7 : Hid (Kp0 w0.drew ww7) := Lib.hid (HK6.out.trans hS (fun _ _ h => h) (fun i hi e => by omega))
          clear hA hS
          refine hK (fun w' : World => Kp0 w0.drew w') _ _ (fun x h => h) HK7.out ?_
          clear hK K
          refine px_done ?_
          have O1 : w.heap.size < w0.drew.heap.size := B1_0.out.lt
          have O2 : (w.heap.size + 1) < w0.drew.heap.size := B2_0.out.lt
          have OW : w.heap.size ≤ w0.drew.heap.size := KW_0.out.size
          go_wp2
          go_meet
          exact ⟨ww3.heap.size, ww4.heap.size, c2, c3, rfl, rfl, ⟨by omega, by omega, by omega, by omega, by omega, by omega, by omega⟩, HC2.out, HC3.out, B3_7.out, B4_7.out, B1_0.out.kp0 ((Kp.refl _ w0).drew.tr HK7.out), B2_0.out.kp0 ((Kp.refl _ w0).drew.tr HK7.out), KW_0.out.tr ((Kp.refl _ w0).drew.tr HK7.out)⟩
        · go_simp
          refine hK (fun w' : World => Kp0 w0.drew w') _ _ (fun x h => h) (HK3.out.alloc _) ?_
          clear hK K
          have L4_8 : w0.drew.heap.size ≤ ww3.heap.size := HK3.out.size
          have HK8 : Hid (Kp0 w0.drew (ww3.alloc (.cells ((kis .u64 z5)).toArray 40))) := Lib.hid (HK3.out.alloc _)
          have B4_8 : Hid (Blk (ww3.alloc (.cells ((kis .u64 z5)).toArray 40)) ww3.heap.size 40 ((kis .u64 z5))) := Lib.hid (blk0 ww3 _ _)
          change PX.wp _ _ _ _ _ _ (ww3.alloc (.cells ((kis .u64 z5)).toArray 40))
          generalize (ww3.alloc (.cells ((kis .u64 z5)).toArray 40)) = ww8 at HK8 B4_8 ⊢
          refine px_eff rfl (by rfl) (fun K hK => ?_)
          go_simp
          refine hK (fun w' : World => Kp0 w0.drew w') _ _ (fun x h => h) (HK8.out.alloc _) ?_
          clear hK K
          have L3_9 : w0.drew.heap.size ≤ ww8.heap.size := HK8.out.size
          have N4_3_9 : ww3.heap.size < ww8.heap.size := B4_8.out.lt
          have HK9 : Hid (Kp0 w0.drew (ww8.alloc (.cells ((kis .u64 z5)).toArray 40))) := Lib.hid (HK8.out.alloc _)
          have B3_9 : Hid (Blk (ww8.alloc (.cells ((kis .u64 z5)).toArray 40)) ww8.heap.size 40 ((kis .u64 z5))) := Lib.hid (blk0 ww8 _ _)
          have B4_9 := Lib.hid (B4_8.out.kp0 ((Kp.refl (fun _ => False) ww8).alloc (.cells ((kis .u64 z5)).toArray 40)))
          change PX.wp _ _ _ _ _ _ (ww8.alloc (.cells ((kis .u64 z5)).toArray 40))
          generalize (ww8.alloc (.cells ((kis .u64 z5)).toArray 40)) = ww9 at HK9 B4_9 B3_9 ⊢
          refine px_eff rfl (by rfl) (fun K hK => ?_)
          refine wp_store_blk 40 (.tmp 3) (.tmp 10) rfl ww8.heap.size _ ((kis .u64 z5)) (c2) rfl rfl B3_9.out HC2.out.2.2.1 (len_of (T := 40) fe_z5.2.2.1 HC2.out.2.2.1) HC2.out.2.2.2 ?_
          intro ww10 hA hS
          have B4_10 := Lib.hid (B4_9.out.keep hS (fun e => by omega))
          have B3_10 := Lib.hid hA
          have HK10 : Hid (Kp0 w0.drew ww10) := Lib.hid (HK9.out.trans hS (fun _ _ h => h) (fun i hi e => by omega))
          clear hA hS
          refine hK (fun w' : World => Kp0 w0.drew w') _ _ (fun x h => h) HK10.out ?_
          clear hK K
          refine px_eff rfl (by rfl) (fun K hK => ?_)
          refine wp_store_blk 40 (.tmp 4) (.tmp 15) rfl ww3.heap.size _ ((kis .u64 z5)) (c3) rfl rfl B4_10.out HC3.out.2.2.1 (len_of (T := 40) fe_z5.2.2.1 HC3.out.2.2.1) HC3.out.2.2.2 ?_
          intro ww11 hA hS
          have B4_11 := Lib.hid hA
          have B3_11 := Lib.hid (B3_10.out.keep hS (fun e => by omega))
          have HK11 : Hid (Kp0 w0.drew ww11) := Lib.hid (HK10.out.trans hS (fun _ _ h => h) (fun i hi e => by omega))
          clear hA hS
          refine hK (fun w' : World => Kp0 w0.drew w') _ _ (fun x h => h) HK11.out ?_
          clear hK K
          refine px_done ?_
          have O1 : w.heap.size < w0.drew.heap.size := B1_0.out.lt
          have O2 : (w.heap.size + 1) < w0.drew.heap.size := B2_0.out.lt
          have OW : w.heap.size ≤ w0.drew.heap.size := KW_0.out.size
          go_wp2
          go_meet
          exact ⟨ww8.heap.size, ww3.heap.size, c2, c3, rfl, rfl, ⟨by omega, by omega, by omega, by omega, by omega, by omega, by omega⟩, HC2.out, HC3.out, B3_11.out, B4_11.out, B1_0.out.kp0 ((Kp.refl _ w0).drew.tr HK11.out), B2_0.out.kp0 ((Kp.refl _ w0).drew.tr HK11.out), KW_0.out.tr ((Kp.refl _ w0).drew.tr HK11.out)⟩
      · go_simp
        refine hK (fun w' : World => Kp0 w0.drew w') _ _ (fun x h => h) (HK2.out.alloc _) ?_
        clear hK K
        have L3_12 : w0.drew.heap.size ≤ ww2.heap.size := HK2.out.size
        have HK12 : Hid (Kp0 w0.drew (ww2.alloc (.cells ((kis .u64 z5)).toArray 40))) := Lib.hid (HK2.out.alloc _)
        have B3_12 : Hid (Blk (ww2.alloc (.cells ((kis .u64 z5)).toArray 40)) ww2.heap.size 40 ((kis .u64 z5))) := Lib.hid (blk0 ww2 _ _)
        change PX.wp _ _ _ _ _ _ (ww2.alloc (.cells ((kis .u64 z5)).toArray 40))
        generalize (ww2.alloc (.cells ((kis .u64 z5)).toArray 40)) = ww12 at HK12 B3_12 ⊢
        refine ⟨px_one rfl (by rfl) (fun K hK => ?_), px_one rfl (by rfl) (fun K hK => ?_)⟩
        · go_simp
          refine (sub_fe x1 z1 m1 n1 _ H1.out H2.out).mono ?_
          rintro e ww13 ⟨c13, rfl, hc, hk⟩
          simp only []
          have HC13 : Hid (Fe El c13 (nS 57896044618658097711785492504343953926634992332820282019728792003956564819949 m1 n1)) := Lib.hid hc
          clear hc
          have HK13 : Hid (Kp0 w0.drew ww13) := Lib.hid (HK12.out.tr hk)
          have B3_13 := Lib.hid (B3_12.out.kp0 hk)
          clear hk
          refine hK (fun w' : World => Kp0 w0.drew w') _ _ (fun x h => h) HK13.out ?_
          clear hK K
          refine px_eff rfl (by rfl) (fun K hK => ?_)
          go_simp
          refine hK (fun w' : World => Kp0 w0.drew w') _ _ (fun x h => h) (HK13.out.alloc _) ?_
          clear hK K
          have L4_14 : w0.drew.heap.size ≤ ww13.heap.size := HK13.out.size
          have N3_4_14 : ww2.heap.size < ww13.heap.size := B3_13.out.lt
          have HK14 : Hid (Kp0 w0.drew (ww13.alloc (.cells ((kis .u64 z5)).toArray 40))) := Lib.hid (HK13.out.alloc _)
          have B4_14 : Hid (Blk (ww13.alloc (.cells ((kis .u64 z5)).toArray 40)) ww13.heap.size 40 ((kis .u64 z5))) := Lib.hid (blk0 ww13 _ _)
          have B3_14 := Lib.hid (B3_13.out.kp0 ((Kp.refl (fun _ => False) ww13).alloc (.cells ((kis .u64 z5)).toArray 40)))
          change PX.wp _ _ _ _ _ _ (ww13.alloc (.cells ((kis .u64 z5)).toArray 40))
          generalize (ww13.alloc (.cells ((kis .u64 z5)).toArray 40)) = ww14 at HK14 B3_14 B4_14 ⊢
          refine px_eff rfl (by rfl) (fun K hK => ?_)
          refine wp_store_blk 40 (.tmp 3) (.tmp 10) rfl ww2.heap.size _ ((kis .u64 z5)) (c2) rfl rfl B3_14.out HC2.out.2.2.1 (len_of (T := 40) fe_z5.2.2.1 HC2.out.2.2.1) HC2.out.2.2.2 ?_
          intro ww15 hA hS
          have B3_15 := Lib.hid hA
          have B4_15 := Lib.hid (B4_14.out.keep hS (fun e => by omega))
          have HK15 : Hid (Kp0 w0.drew ww15) := Lib.hid (HK14.out.trans hS (fun _ _ h => h) (fun i hi e => by omega))
          clear hA hS
          refine hK (fun w' : World => Kp0 w0.drew w') _ _ (fun x h => h) HK15.out ?_
          clear hK K
          refine px_eff rfl (by rfl) (fun K hK => ?_)
          refine wp_store_blk 40 (.tmp 4) (.tmp 15) rfl ww13.heap.size _ ((kis .u64 z5)) (c13) rfl rfl B4_15.out HC13.out.2.2.1 (len_of (T := 40) fe_z5.2.2.1 HC13.out.2.2.1) HC13.out.2.2.2 ?_
          intro ww16 hA hS
          have B3_16 := Lib.hid (B3_15.out.keep hS (fun e => by omega))
          have B4_16 := Lib.hid hA
          have HK16 : Hid (Kp0 w0.drew ww16) := Lib.hid (HK15.out.trans hS (fun _ _ h => h) (fun i hi e => by omega))
          clear hA hS
          refine hK (fun w' : World => Kp0 w0.drew w') _ _ (fun x h => h) HK16.out ?_
          clear hK K
          refine px_done ?_
          have O1 : w.heap.size < w0.drew.heap.size := B1_0.out.lt
          have O2 : (w.heap.size + 1) < w0.drew.heap.size := B2_0.out.lt
          have OW : w.heap.size ≤ w0.drew.heap.size := KW_0.out.size
          go_wp2
          go_meet
          exact ⟨ww2.heap.size, ww13.heap.size, c2, c13, rfl, rfl, ⟨by omega, by omega, by omega, by omega, by omega, by omega, by omega⟩, HC2.out, HC13.out, B3_16.out, B4_16.out, B1_0.out.kp0 ((Kp.refl _ w0).drew.tr HK16.out), B2_0.out.kp0 ((Kp.refl _ w0).drew.tr HK16.out), KW_0.out.tr ((Kp.refl _ w0).drew.tr HK16.out)⟩
        · go_simp
          refine hK (fun w' : World => Kp0 w0.drew w') _ _ (fun x h => h) (HK12.out.alloc _) ?_
          clear hK K
          have L4_17 : w0.drew.heap.size ≤ ww12.heap.size := HK12.out.size
          have N3_4_17 : ww2.heap.size < ww12.heap.size := B3_12.out.lt
          have HK17 : Hid (Kp0 w0.drew (ww12.alloc (.cells ((kis .u64 z5)).toArray 40))) := Lib.hid (HK12.out.alloc _)
          have B4_17 : Hid (Blk (ww12.alloc (.cells ((kis .u64 z5)).toArray 40)) ww12.heap.size 40 ((kis .u64 z5))) := Lib.hid (blk0 ww12 _ _)
          have B3_17 := Lib.hid (B3_12.out.kp0 ((Kp.refl (fun _ => False) ww12).alloc (.cells ((kis .u64 z5)).toArray 40)))
          change PX.wp _ _ _ _ _ _ (ww12.alloc (.cells ((kis .u64 z5)).toArray 40))
          generalize (ww12.alloc (.cells ((kis .u64 z5)).toArray 40)) = ww17 at HK17 B3_17 B4_17 ⊢
          refine px_eff rfl (by rfl) (fun K hK => ?_)
          go_simp
          refine (sub_fe x1 z1 m1 n1 _ H1.out H2.out).mono ?_
          rintro e ww18 ⟨c18, rfl, hc, hk⟩
          simp only []
          have HC18 : Hid (Fe El c18 (nS 57896044618658097711785492504343953926634992332820282019728792003956564819949 m1 n1)) := Lib.hid hc
          clear hc
          have HK18 : Hid (Kp0 w0.drew ww18) := Lib.hid (HK17.out.tr hk)
          have B3_18 := Lib.hid (B3_17.out.kp0 hk)
          have B4_18 := Lib.hid (B4_17.out.kp0 hk)
          clear hk
          refine hK (fun w' : World => Kp0 w0.drew w') _ _ (fun x h => h) HK18.out ?_
          clear hK K
          refine px_eff rfl (by rfl) (fun K hK => ?_)
          refine wp_store_blk 40 (.tmp 3) (.tmp 10) rfl ww2.heap.size _ ((kis .u64 z5)) (c2) rfl rfl B3_18.out HC2.out.2.2.1 (len_of (T := 40) fe_z5.2.2.1 HC2.out.2.2.1) HC2.out.2.2.2 ?_
          intro ww19 hA hS
          have B3_19 := Lib.hid hA
          have B4_19 := Lib.hid (B4_18.out.keep hS (fun e => by omega))
          have HK19 : Hid (Kp0 w0.drew ww19) := Lib.hid (HK18.out.trans hS (fun _ _ h => h) (fun i hi e => by omega))
          clear hA hS
          refine hK (fun w' : World => Kp0 w0.drew w') _ _ (fun x h => h) HK19.out ?_
          clear hK K
          refine px_eff rfl (by rfl) (fun K hK => ?_)
          refine wp_store_blk 40 (.tmp 4) (.tmp 15) rfl ww12.heap.size _ ((kis .u64 z5)) (c18) rfl rfl B4_19.out HC18.out.2.2.1 (len_of (T := 40) fe_z5.2.2.1 HC18.out.2.2.1) HC18.out.2.2.2 ?_
          intro ww20 hA hS
          have B3_20 := Lib.hid (B3_19.out.keep hS (fun e => by omega))
          have B4_20 := Lib.hid hA
          have HK20 : Hid (Kp0 w0.drew ww20) := Lib.hid (HK19.out.trans hS (fun _ _ h => h) (fun i hi e => by omega))
          clear hA hS
          refine hK (fun w' : World => Kp0 w0.drew w') _ _ (fun x h => h) HK20.out ?_
          clear hK K
          refine px_done ?_
          have O1 : w.heap.size < w0.drew.heap.size := B1_0.out.lt
          have O2 : (w.heap.size + 1) < w0.drew.heap.size := B2_0.out.lt
          have OW : w.heap.size ≤ w0.drew.heap.size := KW_0.out.size
          go_wp2
          go_meet
          exact ⟨ww2.heap.size, ww12.heap.size, c2, c18, rfl, rfl, ⟨by omega, by omega, by omega, by omega, by omega, by omega, by omega⟩, HC2.out, HC18.out, B3_20.out, B4_20.out, B1_0.out.kp0 ((Kp.refl _ w0).drew.tr HK20.out), B2_0.out.kp0 ((Kp.refl _ w0).drew.tr HK20.out), KW_0.out.tr ((Kp.refl _ w0).drew.tr HK20.out)⟩
      · go_simp
        refine hK (fun w' : World => Kp0 w0.drew w') _ _ (fun x h => h) (HK2.out.alloc _) ?_
        clear hK K
        have L4_21 : w0.drew.heap.size ≤ ww2.heap.size := HK2.out.size
        have HK21 : Hid (Kp0 w0.drew (ww2.alloc (.cells ((kis .u64 z5)).toArray 40))) := Lib.hid (HK2.out.alloc _)
        have B4_21 : Hid (Blk (ww2.alloc (.cells ((kis .u64 z5)).toArray 40)) ww2.heap.size 40 ((kis .u64 z5))) := Lib.hid (blk0 ww2 _ _)
        change PX.wp _ _ _ _ _ _ (ww2.alloc (.cells ((kis .u64 z5)).toArray 40))
        generalize (ww2.alloc (.cells ((kis .u64 z5)).toArray 40)) = ww21 at HK21 B4_21 ⊢
        refine ⟨px_one rfl (by rfl) (fun K hK => ?_), px_one rfl (by rfl) (fun K hK => ?_)⟩
        · go_simp
          refine (sub_fe x1 z1 m1 n1 _ H1.out H2.out).mono ?_
          rintro e ww22 ⟨c22, rfl, hc, hk⟩
          simp only []
          have HC22 : Hid (Fe El c22 (nS 57896044618658097711785492504343953926634992332820282019728792003956564819949 m1 n1)) := Lib.hid hc
          clear hc
          have HK22 : Hid (Kp0 w0.drew ww22) := Lib.hid (HK21.out.tr hk)
          have B4_22 := Lib.hid (B4_21.out.kp0 hk)
          clear hk
          refine hK (fun w' : World => Kp0 w0.drew w') _ _ (fun x h => h) HK22.out ?_
          clear hK K
          refine px_eff rfl (by rfl) (fun K hK => ?_)
          go_simp
          refine hK (fun w' : World => Kp0 w0.drew w') _ _ (fun x h => h) (HK22.out.alloc _) ?_
          clear hK K
          have L3_23 : w0.drew.heap.size ≤ ww22.heap.size := HK22.out.size
          have N4_3_23 : ww2.heap.size < ww22.heap.size := B4_22.out.lt
          have HK23 : Hid (Kp0 w0.drew (ww22.alloc (.cells ((kis .u64 z5)).toArray 40))) := Lib.hid (HK22.out.alloc _)
          have B3_23 : Hid (Blk (ww22.alloc (.cells ((kis .u64 z5)).toArray 40)) ww22.heap.size 40 ((kis .u64 z5))) := Lib.hid (blk0 ww22 _ _)
          have B4_23 := Lib.hid (B4_22.out.kp0 ((Kp.refl (fun _ => False) ww22).alloc (.cells ((kis .u64 z5)).toArray 40)))
          change PX.wp _ _ _ _ _ _ (ww22.alloc (.cells ((kis .u64 z5)).toArray 40))
          generalize (ww22.alloc (.cells ((kis .u64 z5)).toArray 40)) = ww23 at HK23 B4_23 B3_23 ⊢
          refine px_eff rfl (by rfl) (fun K hK => ?_)
          refine wp_store_blk 40 (.tmp 3) (.tmp 10) rfl ww22.heap.size _ ((kis .u64 z5)) (c2) rfl rfl B3_23.out HC2.out.2.2.1 (len_of (T := 40) fe_z5.2.2.1 HC2.out.2.2.1) HC2.out.2.2.2 ?_
          intro ww24 hA hS
          have B4_24 := Lib.hid (B4_23.out.keep hS (fun e => by omega))
          have B3_24 := Lib.hid hA
          have HK24 : Hid (Kp0 w0.drew ww24) := Lib.hid (HK23.out.trans hS (fun _ _ h => h) (fun i hi e => by omega))
          clear hA hS
          refine hK (fun w' : World => Kp0 w0.drew w') _ _ (fun x h => h) HK24.out ?_
          clear hK K
          refine px_eff rfl (by rfl) (fun K hK => ?_)
          refine wp_store_blk 40 (.tmp 4) (.tmp 15) rfl ww2.heap.size _ ((kis .u64 z5)) (c22) rfl rfl B4_24.out HC22.out.2.2.1 (len_of (T := 40) fe_z5.2.2.1 HC22.out.2.2.1) HC22.out.2.2.2 ?_
          intro ww25 hA hS
          have B4_25 := Lib.hid hA
          have B3_25 := Lib.hid (B3_24.out.keep hS (fun e => by omega))
          have HK25 : Hid (Kp0 w0.drew ww25) := Lib.hid (HK24.out.trans hS (fun _ _ h => h) (fun i hi e => by omega))
          clear hA hS
          refine hK (fun w' : World => Kp0 w0.drew w') _ _ (fun x h => h) HK25.out ?_
          clear hK K
          refine px_done ?_
          have O1 : w.heap.size < w0.drew.heap.size := B1_0.out.lt
          have O2 : (w.heap.size + 1) < w0.drew.heap.size := B2_0.out.lt
          have OW : w.heap.size ≤ w0.drew.heap.size := KW_0.out.size
          go_wp2
          go_meet
          exact ⟨ww22.heap.size, ww2.heap.size, c2, c22, rfl, rfl, ⟨by omega, by omega, by omega, by omega, by omega, by omega, by omega⟩, HC2.out, HC22.out, B3_25.out, B4_25.out, B1_0.out.kp0 ((Kp.refl _ w0).drew.tr HK25.out), B2_0.out.kp0 ((Kp.refl _ w0).drew.tr HK25.out), KW_0.out.tr ((Kp.refl _ w0).drew.tr HK25.out)⟩
        · go_simp
          refine hK (fun w' : World => Kp0 w0.drew w') _ _ (fun x h => h) (HK21.out.alloc _) ?_
          clear hK K
          have L3_26 : w0.drew.heap.size ≤ ww21.heap.size := HK21.out.size
          have N4_3_26 : ww2.heap.size < ww21.heap.size := B4_21.out.lt
          have HK26 : Hid (Kp0 w0.drew (ww21.alloc (.cells ((kis .u64 z5)).toArray 40))) := Lib.hid (HK21.out.alloc _)
          have B3_26 : Hid (Blk (ww21.alloc (.cells ((kis .u64 z5)).toArray 40)) ww21.heap.size 40 ((kis .u64 z5))) := Lib.hid (blk0 ww21 _ _)
          have B4_26 := Lib.hid (B4_21.out.kp0 ((Kp.refl (fun _ => False) ww21).alloc (.cells ((kis .u64 z5)).toArray 40)))
          change PX.wp _ _ _ _ _ _ (ww21.alloc (.cells ((kis .u64 z5)).toArray 40))
          generalize (ww21.alloc (.cells ((kis .u64 z5)).toArray 40)) = ww26 at HK26 B4_26 B3_26 ⊢
          refine px_eff rfl (by rfl) (fun K hK => ?_)
          go_simp
          refine (sub_fe x1 z1 m1 n1 _ H1.out H2.out).mono ?_
          rintro e ww27 ⟨c27, rfl, hc, hk⟩
          simp only []
          have HC27 : Hid (Fe El c27 (nS 57896044618658097711785492504343953926634992332820282019728792003956564819949 m1 n1)) := Lib.hid hc
          clear hc
          have HK27 : Hid (Kp0 w0.drew ww27) := Lib.hid (HK26.out.tr hk)
          have B4_27 := Lib.hid (B4_26.out.kp0 hk)
          have B3_27 := Lib.hid (B3_26.out.kp0 hk)
          clear hk
          refine hK (fun w' : World => Kp0 w0.drew w') _ _ (fun x h => h) HK27.out ?_
          clear hK K
          refine px_eff rfl (by rfl) (fun K hK => ?_)
          refine wp_store_blk 40 (.tmp 3) (.tmp 10) rfl ww21.heap.size _ ((kis .u64 z5)) (c2) rfl rfl B3_27.out HC2.out.2.2.1 (len_of (T := 40) fe_z5.2.2.1 HC2.out.2.2.1) HC2.out.2.2.2 ?_
          intro ww28 hA hS
          have B4_28 := Lib.hid (B4_27.out.keep hS (fun e => by omega))
          have B3_28 := Lib.hid hA
          have HK28 : Hid (Kp0 w0.drew ww28) := Lib.hid (HK27.out.trans hS (fun _ _ h => h) (fun i hi e => by omega))
          clear hA hS
          refine hK (fun w' : World => Kp0 w0.drew w') _ _ (fun x h => h) HK28.out ?_
          clear hK K
          refine px_eff rfl (by rfl) (fun K hK => ?_)
          refine wp_store_blk 40 (.tmp 4) (.tmp 15) rfl ww2.heap.size _ ((kis .u64 z5)) (c27) rfl rfl B4_28.out HC27.out.2.2.1 (len_of (T := 40) fe_z5.2.2.1 HC27.out.2.2.1) HC27.out.2.2.2 ?_
          intro ww29 hA hS
          have B4_29 := Lib.hid hA
          have B3_29 := Lib.hid (B3_28.out.keep hS (fun e => by omega))
          have HK29 : Hid (Kp0 w0.drew ww29) := Lib.hid (HK28.out.trans hS (fun _ _ h => h) (fun i hi e => by omega))
          clear hA hS
          refine hK (fun w' : World => Kp0 w0.drew w') _ _ (fun x h => h) HK29.out ?_
          clear hK K
          refine px_done ?_
          have O1 : w.heap.size < w0.drew.heap.size := B1_0.out.lt
          have O2 : (w.heap.size + 1) < w0.drew.heap.size := B2_0.out.lt
          have OW : w.heap.size ≤ w0.drew.heap.size := KW_0.out.size
          go_wp2
          go_meet
          exact ⟨ww21.heap.size, ww2.heap.size, c2, c27, rfl, rfl, ⟨by omega, by omega, by omega, by omega, by omega, by omega, by omega⟩, HC2.out, HC27.out, B3_29.out, B4_29.out, B1_0.out.kp0 ((Kp.refl _ w0).drew.tr HK29.out), B2_0.out.kp0 ((Kp.refl _ w0).drew.tr HK29.out), KW_0.out.tr ((Kp.refl _ w0).drew.tr HK29.out)⟩
    · go_simp
      refine hK (fun w' : World => Kp0 w0.drew w') _ _ (fun x h => h) (HK1_0.out.alloc _) ?_
      clear hK K
      have L3_30 : w0.drew.heap.size ≤ w0.drew.heap.size := HK1_0.out.size
      have HK30 : Hid (Kp0 w0.drew (w0.drew.alloc (.cells ((kis .u64 z5)).toArray 40))) := Lib.hid (HK1_0.out.alloc _)
      have B3_30 : Hid (Blk (w0.drew.alloc (.cells ((kis .u64 z5)).toArray 40)) w0.drew.heap.size 40 ((kis .u64 z5))) := Lib.hid (blk0 w0.drew _ _)
      change PX.wp _ _ _ _ _ _ (w0.drew.alloc (.cells ((kis .u64 z5)).toArray 40))
      generalize (w0.drew.alloc (.cells ((kis .u64 z5)).toArray 40)) = ww30 at HK30 B3_30 ⊢
      refine ⟨px_one rfl (by rfl) (fun K hK => ?_), px_one rfl (by rfl) (fun K hK => ?_)⟩
      · go_simp
        refine (add_fe x1 z1 m1 n1 _ H1.out H2.out).mono ?_
        rintro e ww31 ⟨c31, rfl, hc, hk⟩
        simp only []
        have HC31 : Hid (Fe El c31 (nA 57896044618658097711785492504343953926634992332820282019728792003956564819949 m1 n1)) := Lib.hid hc
        clear hc
        have HK31 : Hid (Kp0 w0.drew ww31) := Lib.hid (HK30.out.tr hk)
        have B3_31 := Lib.hid (B3_30.out.kp0 hk)
        clear hk
        refine hK (fun w' : World => Kp0 w0.drew w') _ _ (fun x h => h) HK31.out ?_
        clear hK K
        refine ⟨px_one rfl (by rfl) (fun K hK => ?_), px_one rfl (by rfl) (fun K hK => ?_)⟩
        · go_simp
          refine (sub_fe x1 z1 m1 n1 _ H1.out H2.out).mono ?_
          rintro e ww32 ⟨c32, rfl, hc, hk⟩
          simp only []
          have HC32 : Hid (Fe El c32 (nS 57896044618658097711785492504343953926634992332820282019728792003956564819949 m1 n1)) := Lib.hid hc
          clear hc
          have HK32 : Hid (Kp0 w0.drew ww32) := Lib.hid (HK31.out.tr hk)
          have B3_32 := Lib.hid (B3_31.out.kp0 hk)
          clear hk
          refine hK (fun w' : World => Kp0 w0.drew w') _ _ (fun x h => h) HK32.out ?_
          clear hK K
          refine px_eff rfl (by rfl) (fun K hK => ?_)
          go_simp
          refine hK (fun w' : World => Kp0 w0.drew w') _ _ (fun x h => h) (HK32.out.alloc _) ?_
          clear hK K
          have L4_33 : w0.drew.heap.size ≤ ww32.heap.size := HK32.out.size
          have N3_4_33 : w0.drew.heap.size < ww32.heap.size := B3_32.out.lt
          have HK33 : Hid (Kp0 w0.drew (ww32.alloc (.cells ((kis .u64 z5)).toArray 40))) := Lib.hid (HK32.out.alloc _)
          have B4_33 : Hid (Blk (ww32.alloc (.cells ((kis .u64 z5)).toArray 40)) ww32.heap.size 40 ((kis .u64 z5))) := Lib.hid (blk0 ww32 _ _)
          have B3_33 := Lib.hid (B3_32.out.kp0 ((Kp.refl (fun _ => False) ww32).alloc (.cells ((kis .u64 z5)).toArray 40)))
          change PX.wp _ _ _ _ _ _ (ww32.alloc (.cells ((kis .u64 z5)).toArray 40))
          generalize (ww32.alloc (.cells ((kis .u64 z5)).toArray 40)) = ww33 at HK33 B3_33 B4_33 ⊢
          refine px_eff rfl (by rfl) (fun K hK => ?_)
          refine wp_store_blk 40 (.tmp 3) (.tmp 10) rfl w0.drew.heap.size _ ((kis .u64 z5)) (c31) rfl rfl B3_33.out HC31.out.2.2.1 (len_of (T := 40) fe_z5.2.2.1 HC31.out.2.2.1) HC31.out.2.2.2 ?_
          intro ww34 hA hS
          have B3_34 := Lib.hid hA
          have B4_34 := Lib.hid (B4_33.out.keep hS (fun e => by omega))
          have HK34 : Hid (Kp0 w0.drew ww34) := Lib.hid (HK33.out.trans hS (fun _ _ h => h) (fun i hi e => by omega))
          clear hA hS
          refine hK (fun w' : World => Kp0 w0.drew w') _ _ (fun x h => h) HK34.out ?_
          clear hK K
          refine px_eff rfl (by rfl) (fun K hK => ?_)
          refine wp_store_blk 40 (.tmp 4) (.tmp 15) rfl ww32.heap.size _ ((kis .u64 z5)) (c32) rfl rfl B4_34.out HC32.out.2.2.1 (len_of (T := 40) fe_z5.2.2.1 HC32.out.2.2.1) HC32.out.2.2.2 ?_
          intro ww35 hA hS
          have B3_35 := Lib.hid (B3_34.out.keep hS (fun e => by omega))
          have B4_35 := Lib.hid hA
          have HK35 : Hid (Kp0 w0.drew ww35) := Lib.hid (HK34.out.trans hS (fun _ _ h => h) (fun i hi e => by omega))
          clear hA hS
          refine hK (fun w' : World => Kp0 w0.drew w') _ _ (fun x h => h) HK35.out ?_
          clear hK K
          refine px_done ?_
          have O1 : w.heap.size < w0.drew.heap.size := B1_0.out.lt
          have O2 : (w.heap.size + 1) < w0.drew.heap.size := B2_0.out.lt
          have OW : w.heap.size ≤ w0.drew.heap.size := KW_0.out.size
          go_wp2
          go_meet
          exact ⟨w0.drew.heap.size, ww32.heap.size, c31, c32, rfl, rfl, ⟨by omega, by omega, by omega, by omega, by omega, by omega, by omega⟩, HC31.out, HC32.out, B3_35.out, B4_35.out, B1_0.out.kp0 ((Kp.refl _ w0).drew.tr HK35.out), B2_0.out.kp0 ((Kp.refl _ w0).drew.tr HK35.out), KW_0.out.tr ((Kp.refl _ w0).drew.tr HK35.out)⟩
        · go_simp
          refine hK (fun w' : World => Kp0 w0.drew w') _ _ (fun x h => h) (HK31.out.alloc _) ?_
          clear hK K
          have L4_36 : w0.drew.heap.size ≤ ww31.heap.size := HK31.out.size
          have N3_4_36 : w0.drew.heap.size < ww31.heap.size := B3_31.out.lt
          have HK36 : Hid (Kp0 w0.drew (ww31.alloc (.cells ((kis .u64 z5)).toArray 40))) := Lib.hid (HK31.out.alloc _)
          have B4_36 : Hid (Blk (ww31.alloc (.cells ((kis .u64 z5)).toArray 40)) ww31.heap.size 40 ((kis .u64 z5))) := Lib.hid (blk0 ww31 _ _)
          have B3_36 := Lib.hid (B3_31.out.kp0 ((Kp.refl (fun _ => False) ww31).alloc (.cells ((kis .u64 z5)).toArray 40)))
          change PX.wp _ _ _ _ _ _ (ww31.alloc (.cells ((kis .u64 z5)).toArray 40))
          generalize (ww31.alloc (.cells ((kis .u64 z5)).toArray 40)) = ww36 at HK36 B3_36 B4_36 ⊢
          refine px_eff rfl (by rfl) (fun K hK => ?_)
          go_simp
          refine (sub_fe x1 z1 m1 n1 _ H1.out H2.out).mono ?_
          rintro e ww37 ⟨c37, rfl, hc, hk⟩
          simp only []
          have HC37 : Hid (Fe El c37 (nS 57896044618658097711785492504343953926634992332820282019728792003956564819949 m1 n1)) := Lib.hid hc
          clear hc
          have HK37 : Hid (Kp0 w0.drew ww37) := Lib.hid (HK36.out.tr hk)
          have B3_37 := Lib.hid (B3_36.out.kp0 hk)
          have B4_37 := Lib.hid (B4_36.out.kp0 hk)
          clear hk
          refine hK (fun w' : World => Kp0 w0.drew w') _ _ (fun x h => h) HK37.out ?_
          clear hK K
          refine px_eff rfl (by rfl) (fun K hK => ?_)
          refine wp_store_blk 40 (.tmp 3) (.tmp 10) rfl w0.drew.heap.size _ ((kis .u64 z5)) (c31) rfl rfl B3_37.out HC31.out.2.2.1 (len_of (T := 40) fe_z5.2.2.1 HC31.out.2.2.1) HC31.out.2.2.2 ?_
          intro ww38 hA hS
          have B3_38 := Lib.hid hA
          have B4_38 := Lib.hid (B4_37.out.keep hS (fun e => by omega))
          have HK38 : Hid (Kp0 w0.drew ww38) := Lib.hid (HK37.out.trans hS (fun _ _ h => h) (fun i hi e => by omega))
          clear hA hS
          refine hK (fun w' : World => Kp0 w0.drew w') _ _ (fun x h => h) HK38.out ?_
          clear hK K
          refine px_eff rfl (by rfl) (fun K hK => ?_)
          refine wp_store_blk 40 (.tmp 4) (.tmp 15) rfl ww31.heap.size _ ((kis .u64 z5)) (c37) rfl rfl B4_38.out HC37.out.2.2.1 (len_of (T := 40) fe_z5.2.2.1 HC37.out.2.2.1) HC37.out.2.2.2 ?_
          intro ww39 hA hS
          have B3_39 := Lib.hid (B3_38.out.keep hS (fun e => by omega))
          have B4_39 := Lib.hid hA
          have HK39 : Hid (Kp0 w0.drew ww39) := Lib.hid (HK38.out.trans hS (fun _ _ h => h) (fun i hi e => by omega))
          clear hA hS
          refine hK (fun w' : World => Kp0 w0.drew w') _ _ (fun x h => h) HK39.out ?_
          clear hK K
          refine px_done ?_
          have O1 : w.heap.size < w0.drew.heap.size := B1_0.out.lt
          have O2 : (w.heap.size + 1) < w0.drew.heap.size := B2_0.out.lt
          have OW : w.heap.size ≤ w0.drew.heap.size := KW_0.out.size
          go_wp2
          go_meet
          exact ⟨w0.drew.heap.size, ww31.heap.size, c31, c37, rfl, rfl, ⟨by omega, by omega, by omega, by omega, by omega, by omega, by omega⟩, HC31.out, HC37.out, B3_39.out, B4_39.out, B1_0.out.kp0 ((Kp.refl _ w0).drew.tr HK39.out), B2_0.out.kp0 ((Kp.refl _ w0).drew.tr HK39.out), KW_0.out.tr ((Kp.refl _ w0).drew.tr HK39.out)⟩
      · go_simp
        refine hK (fun w' : World => Kp0 w0.drew w') _ _ (fun x h => h) (HK30.out.alloc _) ?_
        clear hK K
        have L4_40 : w0.drew.heap.size ≤ ww30.heap.size := HK30.out.size
        have N3_4_40 : w0.drew.heap.size < ww30.heap.size := B3_30.out.lt
        have HK40 : Hid (Kp0 w0.drew (ww30.alloc (.cells ((kis .u64 z5)).toArray 40))) := Lib.hid (HK30.out.alloc _)
        have B4_40 : Hid (Blk (ww30.alloc (.cells ((kis .u64 z5)).toArray 40)) ww30.heap.size 40 ((kis .u64 z5))) := Lib.hid (blk0 ww30 _ _)
        have B3_40 := Lib.hid (B3_30.out.kp0 ((Kp.refl (fun _ => False) ww30).alloc (.cells ((kis .u64 z5)).toArray 40)))
        change PX.wp _ _ _ _ _ _ (ww30.alloc (.cells ((kis .u64 z5)).toArray 40))
        generalize (ww30.alloc (.cells ((kis .u64 z5)).toArray 40)) = ww40 at HK40 B3_40 B4_40 ⊢
        refine px_eff rfl (by rfl) (fun K hK => ?_)
        go_simp
        refine (add_fe x1 z1 m1 n1 _ H1.out H2.out).mono ?_
        rintro e ww41 ⟨c41, rfl, hc, hk⟩
        simp only []
        have HC41 : Hid (Fe El c41 (nA 57896044618658097711785492504343953926634992332820282019728792003956564819949 m1 n1)) := Lib.hid hc
        clear hc
        have HK41 : Hid (Kp0 w0.drew ww41) := Lib.hid (HK40.out.tr hk)
        have B3_41 := Lib.hid (B3_40.out.kp0 hk)
        have B4_41 := Lib.hid (B4_40.out.kp0 hk)
        clear hk
        refine hK (fun w' : World => Kp0 w0.drew w') _ _ (fun x h => h) HK41.out ?_
        clear hK K
        refine px_eff rfl (by rfl) (fun K hK => ?_)
        go_simp
        refine (sub_fe x1 z1 m1 n1 _ H1.out H2.out).mono ?_
        rintro e ww42 ⟨c42, rfl, hc, hk⟩
        simp only []
        have HC42 : Hid (Fe El c42 (nS 57896044618658097711785492504343953926634992332820282019728792003956564819949 m1 n1)) := Lib.hid hc
        clear hc
        have HK42 : Hid (Kp0 w0.drew ww42) := Lib.hid (HK41.out.tr hk)
        have B3_42 := Lib.hid (B3_41.out.kp0 hk)
        have B4_42 := Lib.hid (B4_41.out.kp0 hk)
        clear hk
        refine hK (fun w' : World => Kp0 w0.drew w') _ _ (fun x h => h) HK42.out ?_
        clear hK K
        refine px_eff rfl (by rfl) (fun K hK => ?_)
        refine wp_store_blk 40 (.tmp 3) (.tmp 10) rfl w0.drew.heap.size _ ((kis .u64 z5)) (c41) rfl rfl B3_42.out HC41.out.2.2.1 (len_of (T := 40) fe_z5.2.2.1 HC41.out.2.2.1) HC41.out.2.2.2 ?_
        intro ww43 hA hS
        have B3_43 := Lib.hid hA
        have B4_43 := Lib.hid (B4_42.out.keep hS (fun e => by omega))
        have HK43 : Hid (Kp0 w0.drew ww43) := Lib.hid (HK42.out.trans hS (fun _ _ h => h) (fun i hi e => by omega))
        clear hA hS
        refine hK (fun w' : World => Kp0 w0.drew w') _ _ (fun x h => h) HK43.out ?_
        clear hK K
        refine px_eff rfl (by rfl) (fun K hK => ?_)
        refine wp_store_blk 40 (.tmp 4) (.tmp 15) rfl ww30.heap.size _ ((kis .u64 z5)) (c42) rfl rfl B4_43.out HC42.out.2.2.1 (len_of (T := 40) fe_z5.2.2.1 HC42.out.2.2.1) HC42.out.2.2.2 ?_
        intro ww44 hA hS
        have B3_44 := Lib.hid (B3_43.out.keep hS (fun e => by omega))
        have B4_44 := Lib.hid hA
        have HK44 : Hid (Kp0 w0.drew ww44) := Lib.hid (HK43.out.trans hS (fun _ _ h => h) (fun i hi e => by omega))
        clear hA hS
        refine hK (fun w' : World => Kp0 w0.drew w') _ _ (fun x h => h) HK44.out ?_
        clear hK K
        refine px_done ?_
        have O1 : w.heap.size < w0.drew.heap.size := B1_0.out.lt
        have O2 : (w.heap.size + 1) < w0.drew.heap.size := B2_0.out.lt
        have OW : w.heap.size ≤ w0.drew.heap.size := KW_0.out.size
        go_wp2
        go_meet
        exact ⟨w0.drew.heap.size, ww30.heap.size, c41, c42, rfl, rfl, ⟨by omega, by omega, by omega, by omega, by omega, by omega, by omega⟩, HC41.out, HC42.out, B3_44.out, B4_44.out, B1_0.out.kp0 ((Kp.refl _ w0).drew.tr HK44.out), B2_0.out.kp0 ((Kp.refl _ w0).drew.tr HK44.out), KW_0.out.tr ((Kp.refl _ w0).drew.tr HK44.out)⟩
    · go_simp
      refine hK (fun w' : World => Kp0 w0.drew w') _ _ (fun x h => h) (HK1_0.out.alloc _) ?_
      clear hK K
      have L4_45 : w0.drew.heap.size ≤ w0.drew.heap.size := HK1_0.out.size
      have HK45 : Hid (Kp0 w0.drew (w0.drew.alloc (.cells ((kis .u64 z5)).toArray 40))) := Lib.hid (HK1_0.out.alloc _)
      have B4_45 : Hid (Blk (w0.drew.alloc (.cells ((kis .u64 z5)).toArray 40)) w0.drew.heap.size 40 ((kis .u64 z5))) := Lib.hid (blk0 w0.drew _ _)
      change PX.wp _ _ _ _ _ _ (w0.drew.alloc (.cells ((kis .u64 z5)).toArray 40))
      generalize (w0.drew.alloc (.cells ((kis .u64 z5)).toArray 40)) = ww45 at HK45 B4_45 ⊢
      refine ⟨px_one rfl (by rfl) (fun K hK => ?_), px_one rfl (by rfl) (fun K hK => ?_)⟩
      · go_simp
        refine (add_fe x1 z1 m1 n1 _ H1.out H2.out).mono ?_
        rintro e ww46 ⟨c46, rfl, hc, hk⟩
        simp only []
        have HC46 : Hid (Fe El c46 (nA 57896044618658097711785492504343953926634992332820282019728792003956564819949 m1 n1)) := Lib.hid hc
        clear hc
        have HK46 : Hid (Kp0 w0.drew ww46) := Lib.hid (HK45.out.tr hk)
        have B4_46 := Lib.hid (B4_45.out.kp0 hk)
        clear hk
        refine hK (fun w' : World => Kp0 w0.drew w') _ _ (fun x h => h) HK46.out ?_
        clear hK K
        refine ⟨px_one rfl (by rfl) (fun K hK => ?_), px_one rfl (by rfl) (fun K hK => ?_)⟩
        · go_simp
          refine (sub_fe x1 z1 m1 n1 _ H1.out H2.out).mono ?_
          rintro e ww47 ⟨c47, rfl, hc, hk⟩
          simp only []
          have HC47 : Hid (Fe El c47 (nS 57896044618658097711785492504343953926634992332820282019728792003956564819949 m1 n1)) := Lib.hid hc
          clear hc
          have HK47 : Hid (Kp0 w0.drew ww47) := Lib.hid (HK46.out.tr hk)
          have B4_47 := Lib.hid (B4_46.out.kp0 hk)
          clear hk
          refine hK (fun w' : World => Kp0 w0.drew w') _ _ (fun x h => h) HK47.out ?_
          clear hK K
          refine px_eff rfl (by rfl) (fun K hK => ?_)
          go_simp
          refine hK (fun w' : World => Kp0 w0.drew w') _ _ (fun x h => h) (HK47.out.alloc _) ?_
          clear hK K
          have L3_48 : w0.drew.heap.size ≤ ww47.heap.size := HK47.out.size
          have N4_3_48 : w0.drew.heap.size < ww47.heap.size := B4_47.out.lt
          have HK48 : Hid (Kp0 w0.drew (ww47.alloc (.cells ((kis .u64 z5)).toArray 40))) := Lib.hid (HK47.out.alloc _)
          have B3_48 : Hid (Blk (ww47.alloc (.cells ((kis .u64 z5)).toArray 40)) ww47.heap.size 40 ((kis .u64 z5))) := Lib.hid (blk0 ww47 _ _)
          have B4_48 := Lib.hid (B4_47.out.kp0 ((Kp.refl (fun _ => False) ww47).alloc (.cells ((kis .u64 z5)).toArray 40)))
          change PX.wp _ _ _ _ _ _ (ww47.alloc (.cells ((kis .u64 z5)).toArray 40))
          generalize (ww47.alloc (.cells ((kis .u64 z5)).toArray 40)) = ww48 at HK48 B4_48 B3_48 ⊢
          refine px_eff rfl (by rfl) (fun K hK => ?_)
          refine wp_store_blk 40 (.tmp 3) (.tmp 10) rfl ww47.heap.size _ ((kis .u64 z5)) (c46) rfl rfl B3_48.out HC46.out.2.2.1 (len_of (T := 40) fe_z5.2.2.1 HC46.out.2.2.1) HC46.out.2.2.2 ?_
          intro ww49 hA hS
          have B4_49 := Lib.hid (B4_48.out.keep hS (fun e => by omega))
          have B3_49 := Lib.hid hA
          have HK49 : Hid (Kp0 w0.drew ww49) := Lib.hid (HK48.out.trans hS (fun _ _ h => h) (fun i hi e => by omega))
          clear hA hS
          refine hK (fun w' : World => Kp0 w0.drew w') _ _ (fun x h => h) HK49.out ?_
          clear hK K
          refine px_eff rfl (by rfl) (fun K hK => ?_)
          refine wp_store_blk 40 (.tmp 4) (.tmp 15) rfl w0.drew.heap.size _ ((kis .u64 z5)) (c47) rfl rfl B4_49.out HC47.out.2.2.1 (len_of (T := 40) fe_z5.2.2.1 HC47.out.2.2.1) HC47.out.2.2.2 ?_
          intro ww50 hA hS
          have B4_50 := Lib.hid hA
          have B3_50 := Lib.hid (B3_49.out.keep hS (fun e => by omega))
          have HK50 : Hid (Kp0 w0.drew ww50) := Lib.hid (HK49.out.trans hS (fun _ _ h => h) (fun i hi e => by omega))
          clear hA hS
          refine hK (fun w' : World => Kp0 w0.drew w') _ _ (fun x h => h) HK50.out ?_
          clear hK K
          refine px_done ?_
          have O1 : w.heap.size < w0.drew.heap.size := B1_0.out.lt
          have O2 : (w.heap.size + 1) < w0.drew.heap.size := B2_0.out.lt
          have OW : w.heap.size ≤ w0.drew.heap.size := KW_0.out.size
          go_wp2
          go_meet
          exact ⟨ww47.heap.size, w0.drew.heap.size, c46, c47, rfl, rfl, ⟨by omega, by omega, by omega, by omega, by omega, by omega, by omega⟩, HC46.out, HC47.out, B3_50.out, B4_50.out, B1_0.out.kp0 ((Kp.refl _ w0).drew.tr HK50.out), B2_0.out.kp0 ((Kp.refl _ w0).drew.tr HK50.out), KW_0.out.tr ((Kp.refl _ w0).drew.tr HK50.out)⟩
        · go_simp
          refine hK (fun w' : World => Kp0 w0.drew w') _ _ (fun x h => h) (HK46.out.alloc _) ?_
          clear hK K
          have L3_51 : w0.drew.heap.size ≤ ww46.heap.size := HK46.out.size
          have N4_3_51 : w0.drew.heap.size < ww46.heap.size := B4_46.out.lt
          have HK51 : Hid (Kp0 w0.drew (ww46.alloc (.cells ((kis .u64 z5)).toArray 40))) := Lib.hid (HK46.out.alloc _)
          have B3_51 : Hid (Blk (ww46.alloc (.cells ((kis .u64 z5)).toArray 40)) ww46.heap.size 40 ((kis .u64 z5))) := Lib.hid (blk0 ww46 _ _)
          have B4_51 := Lib.hid (B4_46.out.kp0 ((Kp.refl (fun _ => False) ww46).alloc (.cells ((kis .u64 z5)).toArray 40)))
          change PX.wp _ _ _ _ _ _ (ww46.alloc (.cells ((kis .u64 z5)).toArray 40))
          generalize (ww46.alloc (.cells ((kis .u64 z5)).toArray 40)) = ww51 at HK51 B4_51 B3_51 ⊢
          refine px_eff rfl (by rfl) (fun K hK => ?_)
          go_simp
          refine (sub_fe x1 z1 m1 n1 _ H1.out H2.out).mono ?_
          rintro e ww52 ⟨c52, rfl, hc, hk⟩
          simp only []
          have HC52 : Hid (Fe El c52 (nS 57896044618658097711785492504343953926634992332820282019728792003956564819949 m1 n1)) := Lib.hid hc
          clear hc
          have HK52 : Hid (Kp0 w0.drew ww52) := Lib.hid (HK51.out.tr hk)
          have B4_52 := Lib.hid (B4_51.out.kp0 hk)
          have B3_52 := Lib.hid (B3_51.out.kp0 hk)
          clear hk
          refine hK (fun w' : World => Kp0 w0.drew w') _ _ (fun x h => h) HK52.out ?_
          clear hK K
          refine px_eff rfl (by rfl) (fun K hK => ?_)
          refine wp_store_blk 40 (.tmp 3) (.tmp 10) rfl ww46.heap.size _ ((kis .u64 z5)) (c46) rfl rfl B3_52.out HC46.out.2.2.1 (len_of (T := 40) fe_z5.2.2.1 HC46.out.2.2.1) HC46.out.2.2.2 ?_
          intro ww53 hA hS
          have B4_53 := Lib.hid (B4_52.out.keep hS (fun e => by omega))
          have B3_53 := Lib.hid hA
          have HK53 : Hid (Kp0 w0.drew ww53) := Lib.hid (HK52.out.trans hS (fun _ _ h => h) (fun i hi e => by omega))
          clear hA hS
          refine hK (fun w' : World => Kp0 w0.drew w') _ _ (fun x h => h) HK53.out ?_
          clear hK K
          refine px_eff rfl (by rfl) (fun K hK => ?_)
          refine wp_store_blk 40 (.tmp 4) (.tmp 15) rfl w0.drew.heap.size _ ((kis .u64 z5)) (c52) rfl rfl B4_53.out HC52.out.2.2.1 (len_of (T := 40) fe_z5.2.2.1 HC52.out.2.2.1) HC52.out.2.2.2 ?_
          intro ww54 hA hS
          have B4_54 := Lib.hid hA
          have B3_54 := Lib.hid (B3_53.out.keep hS (fun e => by omega))
          have HK54 : Hid (Kp0 w0.drew ww54) := Lib.hid (HK53.out.trans hS (fun _ _ h => h) (fun i hi e => by omega))
          clear hA hS
          refine hK (fun w' : World => Kp0 w0.drew w') _ _ (fun x h => h) HK54.out ?_
          clear hK K
          refine px_done ?_
          have O1 : w.heap.size < w0.drew.heap.size := B1_0.out.lt
          have O2 : (w.heap.size + 1) < w0.drew.heap.size := B2_0.out.lt
          have OW : w.heap.size ≤ w0.drew.heap.size := KW_0.out.size
          go_wp2
          go_meet
          exact ⟨ww46.heap.size, w0.drew.heap.size, c46, c52, rfl, rfl, ⟨by omega, by omega, by omega, by omega, by omega, by omega, by omega⟩, HC46.out, HC52.out, B3_54.out, B4_54.out, B1_0.out.kp0 ((Kp.refl _ w0).drew.tr HK54.out), B2_0.out.kp0 ((Kp.refl _ w0).drew.tr HK54.out), KW_0.out.tr ((Kp.refl _ w0).drew.tr HK54.out)⟩
      · go_simp
        refine hK (fun w' : World => Kp0 w0.drew w') _ _ (fun x h => h) (HK45.out.alloc _) ?_
        clear hK K
        have L3_55 : w0.drew.heap.size ≤ ww45.heap.size := HK45.out.size
        have N4_3_55 : w0.drew.heap.size < ww45.heap.size := B4_45.out.lt
        have HK55 : Hid (Kp0 w0.drew (ww45.alloc (.cells ((kis .u64 z5)).toArray 40))) := Lib.hid (HK45.out.alloc _)
        have B3_55 : Hid (Blk (ww45.alloc (.cells ((kis .u64 z5)).toArray 40)) ww45.heap.size 40 ((kis .u64 z5))) := Lib.hid (blk0 ww45 _ _)
        have B4_55 := Lib.hid (B4_45.out.kp0 ((Kp.refl (fun _ => False) ww45).alloc (.cells ((kis .u64 z5)).toArray 40)))
        change PX.wp _ _ _ _ _ _ (ww45.alloc (.cells ((kis .u64 z5)).toArray 40))
        generalize (ww45.alloc (.cells ((kis .u64 z5)).toArray 40)) = ww55 at HK55 B4_55 B3_55 ⊢
        refine px_eff rfl (by rfl) (fun K hK => ?_)
        go_simp
        refine (add_fe x1 z1 m1 n1 _ H1.out H2.out).mono ?_
        rintro e ww56 ⟨c56, rfl, hc, hk⟩
        simp only []
        have HC56 : Hid (Fe El c56 (nA 57896044618658097711785492504343953926634992332820282019728792003956564819949 m1 n1)) := Lib.hid hc
        clear hc
        have HK56 : Hid (Kp0 w0.drew ww56) := Lib.hid (HK55.out.tr hk)
        have B4_56 := Lib.hid (B4_55.out.kp0 hk)
        have B3_56 := Lib.hid (B3_55.out.kp0 hk)
        clear hk
        refine hK (fun w' : World => Kp0 w0.drew w') _ _ (fun x h => h) HK56.out ?_
        clear hK K
        refine px_eff rfl (by rfl) (fun K hK => ?_)
        go_simp
        refine (sub_fe x1 z1 m1 n1 _ H1.out H2.out).mono ?_
        rintro e ww57 ⟨c57, rfl, hc, hk⟩
        simp only []
        have HC57 : Hid (Fe El c57 (nS 57896044618658097711785492504343953926634992332820282019728792003956564819949 m1 n1)) := Lib.hid hc
        clear hc
        have HK57 : Hid (Kp0 w0.drew ww57) := Lib.hid (HK56.out.tr hk)
        have B4_57 := Lib.hid (B4_56.out.kp0 hk)
        have B3_57 := Lib.hid (B3_56.out.kp0 hk)
        clear hk
        refine hK (fun w' : World => Kp0 w0.drew w') _ _ (fun x h => h) HK57.out ?_
        clear hK K
        refine px_eff rfl (by rfl) (fun K hK => ?_)
        refine wp_store_blk 40 (.tmp 3) (.tmp 10) rfl ww45.heap.size _ ((kis .u64 z5)) (c56) rfl rfl B3_57.out HC56.out.2.2.1 (len_of (T := 40) fe_z5.2.2.1 HC56.out.2.2.1) HC56.out.2.2.2 ?_
        intro ww58 hA hS
        have B4_58 := Lib.hid (B4_57.out.keep hS (fun e => by omega))
        have B3_58 := Lib.hid hA
        have HK58 : Hid (Kp0 w0.drew ww58) := Lib.hid (HK57.out.trans hS (fun _ _ h => h) (fun i hi e => by omega))
        clear hA hS
        refine hK (fun w' : World => Kp0 w0.drew w') _ _ (fun x h => h) HK58.out ?_
        clear hK K
        refine px_eff rfl (by rfl) (fun K hK => ?_)
        refine wp_store_blk 40 (.tmp 4) (.tmp 15) rfl w0.drew.heap.size _ ((kis .u64 z5)) (c57) rfl rfl B4_58.out HC57.out.2.2.1 (len_of (T := 40) fe_z5.2.2.1 HC57.out.2.2.1) HC57.out.2.2.2 ?_
        intro ww59 hA hS
        have B4_59 := Lib.hid hA
        have B3_59 := Lib.hid (B3_58.out.keep hS (fun e => by omega))
        have HK59 : Hid (Kp0 w0.drew ww59) := Lib.hid (HK58.out.trans hS (fun _ _ h => h) (fun i hi e => by omega))
        clear hA hS
        refine hK (fun w' : World => Kp0 w0.drew w') _ _ (fun x h => h) HK59.out ?_
        clear hK K
        refine px_done ?_
        have O1 : w.heap.size < w0.drew.heap.size := B1_0.out.lt
        have O2 : (w.heap.size + 1) < w0.drew.heap.size := B2_0.out.lt
        have OW : w.heap.size ≤ w0.drew.heap.size := KW_0.out.size
        go_wp2
        go_meet
        exact ⟨ww45.heap.size, w0.drew.heap.size, c56, c57, rfl, rfl, ⟨by omega, by omega, by omega, by omega, by omega, by omega, by omega⟩, HC56.out, HC57.out, B3_59.out, B4_59.out, B1_0.out.kp0 ((Kp.refl _ w0).drew.tr HK59.out), B2_0.out.kp0 ((Kp.refl _ w0).drew.tr HK59.out), KW_0.out.tr ((Kp.refl _ w0).drew.tr HK59.out)⟩
  case rest =>
    obtain ⟨g3, g4, e3, e4, rfl, rfl, ho, hf3, hf4, hb3, hb4, ho1, ho2, hkw⟩ := hcut
    obtain ⟨o0, o1, o2, o3, o4, o5, o6⟩ := ho
    have HE3 := Lib.hid hf3
    have B3_60 := Lib.hid hb3
    clear hf3 hb3
    have HE4 := Lib.hid hf4
    have B4_60 := Lib.hid hb4
    clear hf4 hb4
    clear B1_0 KW_0 B2_0
    have B1_60 := Lib.hid ho1
    clear ho1
    have B2_60 := Lib.hid ho2
    clear ho2
    have KW_60 := Lib.hid hkw
    clear hkw
    go_upto_region 2 with (fail)
    have HK61_0 : Hid (Kp0 wc.drew wc.drew) := Lib.hid (Kp.refl _ _)
    refine wp_region_px 8 [6] (fun w' : World => Kp0 wc.drew w') (.quiet 0 (.quiet 1 (.quiet 3 (.quiet 4 (.eff 2 (.eff 5 (.wall 6 (.eff 7 .done)))))))) (by kernel_rfl) (by kernel_rfl) (by kernel_rfl) (by kernel_rfl) (fun _ d _ _ _ h => by cases d <;> exact h) HK61_0.out ?_
    refine px_quiet (v := .agg (e3).toArray) rfl (by rfl) (fun wq hwq => run_load_blk 40 (.tmp 3) rfl g3 _ (e3) rfl (B3_60.out.kp0 ((Kp.refl _ wc).drew.tr hwq)) _ Try.underlying40 rfl HE3.out.2.2.1) rfl ?_
    try simp only [List.setIfInBounds_toArray, List.set_cons_zero, List.set_cons_succ]
    refine px_quiet (v := .agg (e3).toArray) rfl (by rfl) (fun wq hwq => run_load_blk 40 (.tmp 3) rfl g3 _ (e3) rfl (B3_60.out.kp0 ((Kp.refl _ wc).drew.tr hwq)) _ Try.underlying40 rfl HE3.out.2.2.1) rfl ?_
    try simp only [List.setIfInBounds_toArray, List.set_cons_zero, List.set_cons_succ]
    refine px_quiet (v := .agg (e4).toArray) rfl (by rfl) (fun wq hwq => run_load_blk 40 (.tmp 4) rfl g4 _ (e4) rfl (B4_60.out.kp0 ((Kp.refl _ wc).drew.tr hwq)) _ Try.underlying40 rfl HE4.out.2.2.1) rfl ?_
    try simp only [List.setIfInBounds_toArray, List.set_cons_zero, List.set_cons_succ]
    refine px_quiet (v := .agg (e4).toArray) rfl (by rfl) (fun wq hwq => run_load_blk 40 (.tmp 4) rfl g4 _ (e4) rfl (B4_60.out.kp0 ((Kp.refl _ wc).drew.tr hwq)) _ Try.underlying40 rfl HE4.out.2.2.1) rfl ?_
    try simp only [List.setIfInBounds_toArray, List.set_cons_zero, List.set_cons_succ]
    refine px_eff rfl (by rfl) (fun K hK => ?_)
    go_simp
    refine (mul_fe e3 e3 (nA 57896044618658097711785492504343953926634992332820282019728792003956564819949 m1 n1) (nA 57896044618658097711785492504343953926634992332820282019728792003956564819949 m1 n1) _ HE3.out HE3.out).mono ?_
    rintro e ww62 ⟨c62, rfl, hc, hk⟩
    simp only []
    have HC62 : Hid (Fe El c62 (nM 57896044618658097711785492504343953926634992332820282019728792003956564819949 (nA 57896044618658097711785492504343953926634992332820282019728792003956564819949 m1 n1) (nA 57896044618658097711785492504343953926634992332820282019728792003956564819949 m1 n1))) := Lib.hid hc
    clear hc
    have HK62 : Hid (Kp0 wc.drew ww62) := Lib.hid (HK61_0.out.tr hk)
    clear hk
    refine hK (fun w' : World => Kp0 wc.drew w') _ _ (fun x h => h) HK62.out ?_
    clear hK K
    refine px_eff rfl (by rfl) (fun K hK => ?_)
    go_simp
    refine (mul_fe e4 e4 (nS 57896044618658097711785492504343953926634992332820282019728792003956564819949 m1 n1) (nS 57896044618658097711785492504343953926634992332820282019728792003956564819949 m1 n1) _ HE4.out HE4.out).mono ?_
    rintro e ww63 ⟨c63, rfl, hc, hk⟩
    simp only []
    have HC63 : Hid (Fe El c63 (nM 57896044618658097711785492504343953926634992332820282019728792003956564819949 (nS 57896044618658097711785492504343953926634992332820282019728792003956564819949 m1 n1) (nS 57896044618658097711785492504343953926634992332820282019728792003956564819949 m1 n1))) := Lib.hid hc
    clear hc
    have HK63 : Hid (Kp0 wc.drew ww63) := Lib.hid (HK62.out.tr hk)
    clear hk
    refine hK (fun w' : World => Kp0 wc.drew w') _ _ (fun x h => h) HK63.out ?_
    clear hK K
    refine px_wall rfl (by rfl) (fun K hK => ?_)
    refine wp_store_blk 40 (.tmp 3) (.tmp 18) rfl g3 _ (e3) (c62) rfl rfl (B3_60.out.kp0 ((Kp.refl _ wc).drew.tr HK63.out)) HC62.out.2.2.1 (len_of (T := 40) HE3.out.2.2.1 HC62.out.2.2.1) HC62.out.2.2.2 ?_
    intro ww64 hA hS
    have B1_64 := Lib.hid ((B1_60.out.kp0 ((Kp.refl _ wc).drew.tr HK63.out)).keep hS (fun e => by omega))
    have B2_64 := Lib.hid ((B2_60.out.kp0 ((Kp.refl _ wc).drew.tr HK63.out)).keep hS (fun e => by omega))
    have B3_64 := Lib.hid hA
    have B4_64 := Lib.hid ((B4_60.out.kp0 ((Kp.refl _ wc).drew.tr HK63.out)).keep hS (fun e => by omega))
    have KW_64 : Hid (Kp0 w ww64) := Lib.hid ((KW_60.out.tr ((Kp.refl _ wc).drew.tr HK63.out)).trans hS (fun _ _ h => h) (fun i hi e => by omega))
    clear hA hS
    refine hK (fun _ => True) _ _ trivial ?_
    clear hK K
    refine px_eff rfl (by rfl) (fun K hK => ?_)
    refine wp_store_blk 40 (.tmp 4) (.tmp 21) rfl g4 _ (e4) (c63) rfl rfl B4_64.out HC63.out.2.2.1 (len_of (T := 40) HE4.out.2.2.1 HC63.out.2.2.1) HC63.out.2.2.2 ?_
    intro ww65 hA hS
    have B1_65 := Lib.hid (B1_64.out.keep hS (fun e => by omega))
    have B2_65 := Lib.hid (B2_64.out.keep hS (fun e => by omega))
    have B3_65 := Lib.hid (B3_64.out.keep hS (fun e => by omega))
    have B4_65 := Lib.hid hA
    have KW_65 : Hid (Kp0 w ww65) := Lib.hid (KW_64.out.trans hS (fun _ _ h => h) (fun i hi e => by omega))
    clear hA hS
    refine hK (fun _ => True) _ _ (fun _ h => h) trivial ?_
    clear hK K
    refine px_done ?_
    go_upto_region 3 with (fail)
    go_upto_region 4 with (first
      | (refine wl_load_blk rfl 40 (.tmp 3) rfl g3 _ (c62) rfl B3_65.out _ Try.underlying40 rfl HC62.out.2.2.1 ?_)
      | (refine wl_load_blk rfl 40 (.tmp 4) rfl g4 _ (c63) rfl B4_65.out _ Try.underlying40 rfl HC63.out.2.2.1 ?_)
      | (go_at_call 41; refine (sub_fe c62 c63 (nM 57896044618658097711785492504343953926634992332820282019728792003956564819949 (nA 57896044618658097711785492504343953926634992332820282019728792003956564819949 m1 n1) (nA 57896044618658097711785492504343953926634992332820282019728792003956564819949 m1 n1)) (nM 57896044618658097711785492504343953926634992332820282019728792003956564819949 (nS 57896044618658097711785492504343953926634992332820282019728792003956564819949 m1 n1) (nS 57896044618658097711785492504343953926634992332820282019728792003956564819949 m1 n1)) _ HC62.out HC63.out).mono ?_; rintro e y66 ⟨c66, rfl, hc, hk⟩; have HC66 : Hid (Fe El c66 (nS 57896044618658097711785492504343953926634992332820282019728792003956564819949 (nM 57896044618658097711785492504343953926634992332820282019728792003956564819949 (nA 57896044618658097711785492504343953926634992332820282019728792003956564819949 m1 n1) (nA 57896044618658097711785492504343953926634992332820282019728792003956564819949 m1 n1)) (nM 57896044618658097711785492504343953926634992332820282019728792003956564819949 (nS 57896044618658097711785492504343953926634992332820282019728792003956564819949 m1 n1) (nS 57896044618658097711785492504343953926634992332820282019728792003956564819949 m1 n1)))) := Lib.hid hc; clear hc; have HY66 := Lib.hid hk; clear hk)
      | (refine wl_store_blk rfl 40 (.tmp 5) (.tmp 24) rfl y66.heap.size _ ((kis .u64 z5)) (c66) rfl rfl (blk0 y66 _ _) HC66.out.2.2.1 (len_of (T := 40) fe_z5.2.2.1 HC66.out.2.2.1) HC66.out.2.2.2 ?_; intro v66 hA hS; have HA66 := Lib.hid hA; have HZ66 : Hid (Kp0 y66 v66) := Lib.hid (((Kp.refl (fun _ => False) y66).alloc _).trans hS (fun _ _ h => h) (fun i hi e => by omega)); clear hA hS))
    try simp only [Act.put]
    obtain ⟨g5, hg5⟩ : ∃ g, g = y66.heap.size := ⟨_, rfl⟩
    have O1_66 : w.heap.size < g5 := by rw [hg5]; exact Nat.lt_of_lt_of_le B1_65.out.lt HY66.out.size
    have O2_66 : (w.heap.size + 1) < g5 := by rw [hg5]; exact Nat.lt_of_lt_of_le B2_65.out.lt HY66.out.size
    have O3_66 : g3 < g5 := by rw [hg5]; exact Nat.lt_of_lt_of_le B3_65.out.lt HY66.out.size
    have O4_66 : g4 < g5 := by rw [hg5]; exact Nat.lt_of_lt_of_le B4_65.out.lt HY66.out.size
    have OW_66 : w.heap.size ≤ g5 := by rw [hg5]; exact Nat.le_trans KW_65.out.size HY66.out.size
    rw [← hg5] at HA66
    rw [← hg5]
    clear hg5
    have B1_66 := Lib.hid (B1_65.out.kp0 (HY66.out.tr HZ66.out))
    have B2_66 := Lib.hid (B2_65.out.kp0 (HY66.out.tr HZ66.out))
    have B3_66 := Lib.hid (B3_65.out.kp0 (HY66.out.tr HZ66.out))
    have B4_66 := Lib.hid (B4_65.out.kp0 (HY66.out.tr HZ66.out))
    have KW_66 := Lib.hid (KW_65.out.tr (HY66.out.tr HZ66.out))
    have HK67_0 : Hid (Kp0 v66.drew v66.drew) := Lib.hid (Kp.refl _ _)
    refine wp_region_px 12 [11] (fun w' : World => Kp0 v66.drew w') (.quiet 0 (.quiet 1 (.quiet 3 (.quiet 4 (.quiet 5 (.eff 2 (.eff 6 (.eff 7 (.eff 8 (.eff 9 (.quiet 10 (.wall 11 .done)))))))))))) (by kernel_rfl) (by kernel_rfl) (by kernel_rfl) (by kernel_rfl) (fun _ d _ _ _ h => by cases d <;> exact h) HK67_0.out ?_
    refine px_quiet (v := .agg (c62).toArray) rfl (by rfl) (fun wq hwq => run_load_blk 40 (.tmp 3) rfl g3 _ (c62) rfl (B3_66.out.kp0 ((Kp.refl _ v66).drew.tr hwq)) _ Try.underlying40 rfl HC62.out.2.2.1) rfl ?_
    try simp only [List.setIfInBounds_toArray, List.set_cons_zero, List.set_cons_succ]
    refine px_quiet (v := .agg (c63).toArray) rfl (by rfl) (fun wq hwq => run_load_blk 40 (.tmp 4) rfl g4 _ (c63) rfl (B4_66.out.kp0 ((Kp.refl _ v66).drew.tr hwq)) _ Try.underlying40 rfl HC63.out.2.2.1) rfl ?_
    try simp only [List.setIfInBounds_toArray, List.set_cons_zero, List.set_cons_succ]
    refine px_quiet (v := .agg (c66).toArray) rfl (by rfl) (fun wq hwq => run_load_blk 40 (.tmp 5) rfl g5 _ (c66) rfl (HA66.out.kp0 ((Kp.refl _ v66).drew.tr hwq)) _ Try.underlying40 rfl HC66.out.2.2.1) rfl ?_
    try simp only [List.setIfInBounds_toArray, List.set_cons_zero, List.set_cons_succ]
    refine px_quiet (v := .agg (c62).toArray) rfl (by rfl) (fun wq hwq => run_load_blk 40 (.tmp 3) rfl g3 _ (c62) rfl (B3_66.out.kp0 ((Kp.refl _ v66).drew.tr hwq)) _ Try.underlying40 rfl HC62.out.2.2.1) rfl ?_
    try simp only [List.setIfInBounds_toArray, List.set_cons_zero, List.set_cons_succ]
    refine px_quiet (v := .agg (c66).toArray) rfl (by rfl) (fun wq hwq => run_load_blk 40 (.tmp 5) rfl g5 _ (c66) rfl (HA66.out.kp0 ((Kp.refl _ v66).drew.tr hwq)) _ Try.underlying40 rfl HC66.out.2.2.1) rfl ?_
    try simp only [List.setIfInBounds_toArray, List.set_cons_zero, List.set_cons_succ]
    refine px_eff rfl (by rfl) (fun K hK => ?_)
    go_simp
    refine (mul_fe c62 c63 (nM 57896044618658097711785492504343953926634992332820282019728792003956564819949 (nA 57896044618658097711785492504343953926634992332820282019728792003956564819949 m1 n1) (nA 57896044618658097711785492504343953926634992332820282019728792003956564819949 m1 n1)) (nM 57896044618658097711785492504343953926634992332820282019728792003956564819949 (nS 57896044618658097711785492504343953926634992332820282019728792003956564819949 m1 n1) (nS 57896044618658097711785492504343953926634992332820282019728792003956564819949 m1 n1)) _ HC62.out HC63.out).mono ?_
    rintro e ww68 ⟨c68, rfl, hc, hk⟩
    simp only []
    have HC68 : Hid (Fe El c68 (nM 57896044618658097711785492504343953926634992332820282019728792003956564819949 (nM 57896044618658097711785492504343953926634992332820282019728792003956564819949 (nA 57896044618658097711785492504343953926634992332820282019728792003956564819949 m1 n1) (nA 57896044618658097711785492504343953926634992332820282019728792003956564819949 m1 n1)) (nM 57896044618658097711785492504343953926634992332820282019728792003956564819949 (nS 57896044618658097711785492504343953926634992332820282019728792003956564819949 m1 n1) (nS 57896044618658097711785492504343953926634992332820282019728792003956564819949 m1 n1)))) := Lib.hid hc
    clear hc
    have HK68 : Hid (Kp0 v66.drew ww68) := Lib.hid (HK67_0.out.tr hk)
    clear hk
    refine hK (fun w' : World => Kp0 v66.drew w') _ _ (fun x h => h) HK68.out ?_
    clear hK K
    refine px_eff rfl (by rfl) (fun K hK => ?_)
    go_simp
    refine (small_fe 121665 _ (by omega)).mono ?_
    rintro e ww69 ⟨c69, rfl, hc, hk⟩
    simp only []
    have HC69 := Lib.hid hc
    clear hc
    have HK69 : Hid (Kp0 v66.drew ww69) := Lib.hid (HK68.out.tr hk)
    clear hk
    refine hK (fun w' : World => Kp0 v66.drew w') _ _ (fun x h => h) HK69.out ?_
    clear hK K
    refine px_eff rfl (by rfl) (fun K hK => ?_)
    go_simp
    refine (mul_fe c66 c69 (nS 57896044618658097711785492504343953926634992332820282019728792003956564819949 (nM 57896044618658097711785492504343953926634992332820282019728792003956564819949 (nA 57896044618658097711785492504343953926634992332820282019728792003956564819949 m1 n1) (nA 57896044618658097711785492504343953926634992332820282019728792003956564819949 m1 n1)) (nM 57896044618658097711785492504343953926634992332820282019728792003956564819949 (nS 57896044618658097711785492504343953926634992332820282019728792003956564819949 m1 n1) (nS 57896044618658097711785492504343953926634992332820282019728792003956564819949 m1 n1))) 121665 _ HC66.out HC69.out).mono ?_
    rintro e ww70 ⟨c70, rfl, hc, hk⟩
    simp only []
    have HC70 : Hid (Fe El c70 (nM 57896044618658097711785492504343953926634992332820282019728792003956564819949 (nS 57896044618658097711785492504343953926634992332820282019728792003956564819949 (nM 57896044618658097711785492504343953926634992332820282019728792003956564819949 (nA 57896044618658097711785492504343953926634992332820282019728792003956564819949 m1 n1) (nA 57896044618658097711785492504343953926634992332820282019728792003956564819949 m1 n1)) (nM 57896044618658097711785492504343953926634992332820282019728792003956564819949 (nS 57896044618658097711785492504343953926634992332820282019728792003956564819949 m1 n1) (nS 57896044618658097711785492504343953926634992332820282019728792003956564819949 m1 n1))) 121665)) := Lib.hid hc
    clear hc
    have HK70 : Hid (Kp0 v66.drew ww70) := Lib.hid (HK69.out.tr hk)
    clear hk
    refine hK (fun w' : World => Kp0 v66.drew w') _ _ (fun x h => h) HK70.out ?_
    clear hK K
    refine px_eff rfl (by rfl) (fun K hK => ?_)
    go_simp
    refine (add_fe c62 c70 (nM 57896044618658097711785492504343953926634992332820282019728792003956564819949 (nA 57896044618658097711785492504343953926634992332820282019728792003956564819949 m1 n1) (nA 57896044618658097711785492504343953926634992332820282019728792003956564819949 m1 n1)) (nM 57896044618658097711785492504343953926634992332820282019728792003956564819949 (nS 57896044618658097711785492504343953926634992332820282019728792003956564819949 (nM 57896044618658097711785492504343953926634992332820282019728792003956564819949 (nA 57896044618658097711785492504343953926634992332820282019728792003956564819949 m1 n1) (nA 57896044618658097711785492504343953926634992332820282019728792003956564819949 m1 n1)) (nM 57896044618658097711785492504343953926634992332820282019728792003956564819949 (nS 57896044618658097711785492504343953926634992332820282019728792003956564819949 m1 n1) (nS 57896044618658097711785492504343953926634992332820282019728792003956564819949 m1 n1))) 121665) _ HC62.out HC70.out).mono ?_
    rintro e ww71 ⟨c71, rfl, hc, hk⟩
    simp only []
    have HC71 : Hid (Fe El c71 (nA 57896044618658097711785492504343953926634992332820282019728792003956564819949 (nM 57896044618658097711785492504343953926634992332820282019728792003956564819949 (nA 57896044618658097711785492504343953926634992332820282019728792003956564819949 m1 n1) (nA 57896044618658097711785492504343953926634992332820282019728792003956564819949 m1 n1)) (nM 57896044618658097711785492504343953926634992332820282019728792003956564819949 (nS 57896044618658097711785492504343953926634992332820282019728792003956564819949 (nM 57896044618658097711785492504343953926634992332820282019728792003956564819949 (nA 57896044618658097711785492504343953926634992332820282019728792003956564819949 m1 n1) (nA 57896044618658097711785492504343953926634992332820282019728792003956564819949 m1 n1)) (nM 57896044618658097711785492504343953926634992332820282019728792003956564819949 (nS 57896044618658097711785492504343953926634992332820282019728792003956564819949 m1 n1) (nS 57896044618658097711785492504343953926634992332820282019728792003956564819949 m1 n1))) 121665))) := Lib.hid hc
    clear hc
    have HK71 : Hid (Kp0 v66.drew ww71) := Lib.hid (HK70.out.tr hk)
    clear hk
    refine hK (fun w' : World => Kp0 v66.drew w') _ _ (fun x h => h) HK71.out ?_
    clear hK K
    refine px_eff rfl (by rfl) (fun K hK => ?_)
    go_simp
    refine (mul_fe c66 c71 (nS 57896044618658097711785492504343953926634992332820282019728792003956564819949 (nM 57896044618658097711785492504343953926634992332820282019728792003956564819949 (nA 57896044618658097711785492504343953926634992332820282019728792003956564819949 m1 n1) (nA 57896044618658097711785492504343953926634992332820282019728792003956564819949 m1 n1)) (nM 57896044618658097711785492504343953926634992332820282019728792003956564819949 (nS 57896044618658097711785492504343953926634992332820282019728792003956564819949 m1 n1) (nS 57896044618658097711785492504343953926634992332820282019728792003956564819949 m1 n1))) (nA 57896044618658097711785492504343953926634992332820282019728792003956564819949 (nM 57896044618658097711785492504343953926634992332820282019728792003956564819949 (nA 57896044618658097711785492504343953926634992332820282019728792003956564819949 m1 n1) (nA 57896044618658097711785492504343953926634992332820282019728792003956564819949 m1 n1)) (nM 57896044618658097711785492504343953926634992332820282019728792003956564819949 (nS 57896044618658097711785492504343953926634992332820282019728792003956564819949 (nM 57896044618658097711785492504343953926634992332820282019728792003956564819949 (nA 57896044618658097711785492504343953926634992332820282019728792003956564819949 m1 n1) (nA 57896044618658097711785492504343953926634992332820282019728792003956564819949 m1 n1)) (nM 57896044618658097711785492504343953926634992332820282019728792003956564819949 (nS 57896044618658097711785492504343953926634992332820282019728792003956564819949 m1 n1) (nS 57896044618658097711785492504343953926634992332820282019728792003956564819949 m1 n1))) 121665)) _ HC66.out HC71.out).mono ?_
    rintro e ww72 ⟨c72, rfl, hc, hk⟩
    simp only []
    have HC72 : Hid (Fe El c72 (nM 57896044618658097711785492504343953926634992332820282019728792003956564819949 (nS 57896044618658097711785492504343953926634992332820282019728792003956564819949 (nM 57896044618658097711785492504343953926634992332820282019728792003956564819949 (nA 57896044618658097711785492504343953926634992332820282019728792003956564819949 m1 n1) (nA 57896044618658097711785492504343953926634992332820282019728792003956564819949 m1 n1)) (nM 57896044618658097711785492504343953926634992332820282019728792003956564819949 (nS 57896044618658097711785492504343953926634992332820282019728792003956564819949 m1 n1) (nS 57896044618658097711785492504343953926634992332820282019728792003956564819949 m1 n1))) (nA 57896044618658097711785492504343953926634992332820282019728792003956564819949 (nM 57896044618658097711785492504343953926634992332820282019728792003956564819949 (nA 57896044618658097711785492504343953926634992332820282019728792003956564819949 m1 n1) (nA 57896044618658097711785492504343953926634992332820282019728792003956564819949 m1 n1)) (nM 57896044618658097711785492504343953926634992332820282019728792003956564819949 (nS 57896044618658097711785492504343953926634992332820282019728792003956564819949 (nM 57896044618658097711785492504343953926634992332820282019728792003956564819949 (nA 57896044618658097711785492504343953926634992332820282019728792003956564819949 m1 n1) (nA 57896044618658097711785492504343953926634992332820282019728792003956564819949 m1 n1)) (nM 57896044618658097711785492504343953926634992332820282019728792003956564819949 (nS 57896044618658097711785492504343953926634992332820282019728792003956564819949 m1 n1) (nS 57896044618658097711785492504343953926634992332820282019728792003956564819949 m1 n1))) 121665)))) := Lib.hid hc
    clear hc
    have HK72 : Hid (Kp0 v66.drew ww72) := Lib.hid (HK71.out.tr hk)
    clear hk
    refine hK (fun w' : World => Kp0 v66.drew w') _ _ (fun x h => h) HK72.out ?_
    clear hK K
    refine px_quiet (v := .agg ((c68 ++ c72)).toArray) rfl (by rfl) (fun wq hwq => run_build_fr wq _ _ 27 34 rfl (c68) (c72) (fe_len HC68.out) (fe_len HC72.out) rfl rfl) rfl ?_
    try simp only [List.setIfInBounds_toArray, List.set_cons_zero, List.set_cons_succ]
    refine px_wall rfl (by rfl) (fun K hK => ?_)
    refine wp_store_blk 60 (.tmp 2) (.tmp 35) rfl (w.heap.size + 1) _ (((kis .u64 z5) ++ (kis .u64 z5))) ((c68 ++ c72)) rfl rfl (B2_66.out.kp0 ((Kp.refl _ v66).drew.tr HK72.out)) (info_fr HC68.out HC72.out) (len_of (T := 60) (info_fr fe_z5 fe_z5) (info_fr HC68.out HC72.out)) (ones_app HC68.out.2.2.2 HC72.out.2.2.2) ?_
    intro ww73 hA hS
    have B1_73 := Lib.hid ((B1_66.out.kp0 ((Kp.refl _ v66).drew.tr HK72.out)).keep hS (fun e => by omega))
    have B2_73 := Lib.hid hA
    have B3_73 := Lib.hid ((B3_66.out.kp0 ((Kp.refl _ v66).drew.tr HK72.out)).keep hS (fun e => by omega))
    have B4_73 := Lib.hid ((B4_66.out.kp0 ((Kp.refl _ v66).drew.tr HK72.out)).keep hS (fun e => by omega))
    have B5_73 := Lib.hid ((HA66.out.kp0 ((Kp.refl _ v66).drew.tr HK72.out)).keep hS (fun e => by omega))
    have KW_73 : Hid (Kp0 w ww73) := Lib.hid ((KW_66.out.tr ((Kp.refl _ v66).drew.tr HK72.out)).trans hS (fun _ _ h => h) (fun i hi e => by omega))
    clear hA hS
    refine hK (fun _ => True) _ _ trivial ?_
    clear hK K
    refine px_done ?_
    go_wp2
    refine ret_blk 2 60 60 (w.heap.size + 1) ((c68 ++ c72)) _ rfl rfl B2_73.out Try.underlying60 rfl (info_fr HC68.out HC72.out) rfl ?_
    exact ⟨_, _, rfl, HC68.out, HC72.out, KW_73.out⟩
end Go.Proofs.Ytcnehbfcagghpaa
