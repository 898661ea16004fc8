/- Package ladder: times. -/
import Derived.Test.YtcnehbfcagghpaaLad4
import Derived.Test.YtcnehbfcagghpaaLadA
namespace Go.Proofs.Ytcnehbfcagghpaa
open Go Go.RowKit
open Edw (nA nS nM)
theorem swap_ex (b : Bool) {x1 z1 x2 z2 : List Value} {m1 n1 m2 n2 : Nat} (h1 : Fe El x1 m1) (h2 : Fe El z1 n1) (h3 : Fe El x2 m2) (h4 : Fe El z2 n2) :
    ∃ p1 q1 p2 q2 : List Value, (∀ w : World, Calls Try.prog 28 #[.bool b, .agg (x1 ++ z1).toArray, .agg (x2 ++ z2).toArray] w fun e w' => e = .returned (.tuple #[.agg (p1 ++ q1).toArray, .agg (p2 ++ q2).toArray]) ∧ Kp0 w w') ∧
      Fe El p1 (if b then m2 else m1) ∧ Fe El q1 (if b then n2 else n1) ∧ Fe El p2 (if b then m1 else m2) ∧ Fe El q2 (if b then n1 else n2) :=
  ⟨_, _, _, _, fun w => frswap_any b x1 z1 x2 z2 m1 n1 m2 n2 w h1 h2 h3 h4, fe_if b h3 h1, fe_if b h4 h2, fe_if b h1 h3, fe_if b h2 h4⟩
/-- What times keeps. -/
def TimS (w : World) (l : List UInt8) (u : List Value) (g5 g6 : Nat) (s : Nat × Nat × Nat × Nat) (wx : World) : Prop :=
  (∃ e1 e2 e3 e4, (Fe El e1 s.1 ∧ Fe El e2 s.2.1 ∧ Fe El e3 s.2.2.1 ∧ Fe El e4 s.2.2.2) ∧ Blk wx g5 60 (e1 ++ e2) ∧ Blk wx g6 60 (e3 ++ e4)) ∧ Blk wx w.heap.size 32 (bys l) ∧ Blk wx (w.heap.size + 1) 40 u ∧ Blk wx (w.heap.size + 1 + 1) 40 (kis .u64 z5) ∧ Kp0 w wx
theorem stpP_form (p x : Nat) (s : Nat × Nat × Nat × Nat) (b : Bool) : Edw.stpP p x s b =
    ((if b then Edw.psX p (if b then s.2.2.1 else s.1) (if b then s.2.2.2 else s.2.1) (if b then s.1 else s.2.2.1) (if b then s.2.1 else s.2.2.2) else Edw.pdX p (if b then s.2.2.1 else s.1) (if b then s.2.2.2 else s.2.1)),
     (if b then Edw.psZ p x (if b then s.2.2.1 else s.1) (if b then s.2.2.2 else s.2.1) (if b then s.1 else s.2.2.1) (if b then s.2.1 else s.2.2.2) else Edw.pdZ p (if b then s.2.2.1 else s.1) (if b then s.2.2.2 else s.2.1)),
     (if b then Edw.pdX p (if b then s.2.2.1 else s.1) (if b then s.2.2.2 else s.2.1) else Edw.psX p (if b then s.2.2.1 else s.1) (if b then s.2.2.2 else s.2.1) (if b then s.1 else s.2.2.1) (if b then s.2.1 else s.2.2.2)),
     (if b then Edw.pdZ p (if b then s.2.2.1 else s.1) (if b then s.2.2.2 else s.2.1) else Edw.psZ p x (if b then s.2.2.1 else s.1) (if b then s.2.2.2 else s.2.1) (if b then s.1 else s.2.2.1) (if b then s.2.1 else s.2.2.2))) := by
  cases b <;> rfl
theorem multP_e {p e x m : Nat} {l : List Bool} (he : e = p - 2) (h : nM p (Edw.ladP p x l).1 ((Edw.ladP p x l).2.1 ^ e % p) = m) : Edw.multP p x l = m := by
  subst he
  exact h
theorem multP_inv (x : Nat) (l : List Bool) {m : Nat} (h : nM 57896044618658097711785492504343953926634992332820282019728792003956564819949 (Edw.ladP 57896044618658097711785492504343953926634992332820282019728792003956564819949 x l).1 (invN (Edw.ladP 57896044618658097711785492504343953926634992332820282019728792003956564819949 x l).2.1) = m) : Edw.multP 57896044618658097711785492504343953926634992332820282019728792003956564819949 x l = m := by
  unfold invN powN at h
  exact multP_e (by unfold eInv; omega) h
set_option maxRecDepth 20000 in
set_option maxHeartbeats 8000000 in
theorem times_any (l : List UInt8) (u : List Value) (x : Nat) (w : World) (hl : l.length = 32) (hu : Fe El u x) :
    Calls Try.prog 17 #[.agg (bys l).toArray, .agg u.toArray] w fun e w' => ∃ cs, e = .returned (.agg cs.toArray) ∧ Fe El cs (Edw.multP 57896044618658097711785492504343953926634992332820282019728792003956564819949 x (Edw.bitsN 255 (leN l))) ∧ Kp0 w w' := by
  have HU := Lib.hid hu
  have HL := Lib.hid hl
  obtain ⟨bl, hbl⟩ : ∃ b, b = Edw.bitsN 255 (leN l) := ⟨_, rfl⟩
  obtain ⟨F, hF⟩ : ∃ F : List Bool → Nat × Nat × Nat × Nat, F = Edw.ladP 57896044618658097711785492504343953926634992332820282019728792003956564819949 x := ⟨_, rfl⟩
  have HSTEP : Hid (∀ (k q r y : Nat), k < 255 → 254 - k = 8 * q + r → r < 8 → (hq : q < l.length) → y = (l[q]'hq).toNat → F (bl.take (k + 1)) = Edw.stpP 57896044618658097711785492504343953926634992332820282019728792003956564819949 x (F (bl.take k)) (y / 2 ^ r % 2 == 1)) := Lib.hid (by
    intro k q r y h hj hr8 hq hy
    rw [hF, hbl]
    refine Edw.ladP_take 57896044618658097711785492504343953926634992332820282019728792003956564819949 x (Edw.bitsN 255 (leN l)) k _ ?_
    rw [Edw.bitsN_get 255 (leN l) k h, hy, leN_byte l q hq, byte_bit _ _ _ hr8, show 8 * q + r = 255 - 1 - k by omega])
  have HF0 : Hid (F (bl.take 0) = (1, 0, x, 1)) := Lib.hid (by rw [hF]; rfl)
  have HFIN : Hid (∀ m, nM 57896044618658097711785492504343953926634992332820282019728792003956564819949 (F (bl.take 255)).1 (invN (F (bl.take 255)).2.1) = m → Edw.multP 57896044618658097711785492504343953926634992332820282019728792003956564819949 x (Edw.bitsN 255 (leN l)) = m) := Lib.hid (by
    intro m
    rw [hF, hbl, List.take_of_length_le (by rw [Edw.bitsN_len]; exact Nat.le_refl _)]
    exact multP_inv x _)
  clear hu hl hF hbl
  go_enter Try.func17, Try.ntmps17
  go_upto_region 1 with (fail)
  obtain ⟨w0, hw0⟩ : ∃ w0, w0 = (((w.alloc (.cells ((bys l)).toArray 32)).alloc (.cells (u).toArray 40)).alloc (.cells ((kis .u64 z5)).toArray 40)) := ⟨_, rfl⟩
  have B2_0 : Hid (Blk w0 w.heap.size 32 ((bys l))) := Lib.hid (by rw [hw0]; exact (blk_n (w := w) (by simp)).kp0 ((((Kp.refl _ _).alloc _).alloc _)))
  have B3_0 : Hid (Blk w0 (w.heap.size + 1) 40 (u)) := Lib.hid (by rw [hw0]; exact (blk_n (w := (w.alloc (.cells ((bys l)).toArray 32))) (by simp)).kp0 (((Kp.refl _ _).alloc _)))
  have B4_0 : Hid (Blk w0 (w.heap.size + 1 + 1) 40 ((kis .u64 z5))) := Lib.hid (by rw [hw0]; exact blk_n (w := ((w.alloc (.cells ((bys l)).toArray 32)).alloc (.cells (u).toArray 40))) (by simp))
  have KW_0 : Hid (Kp0 w w0) := Lib.hid (by rw [hw0]; exact ((((Kp.refl _ w).alloc _).alloc _).alloc _))
  change Code.wp _ _ _ _ (((w.alloc (.cells ((bys l)).toArray 32)).alloc (.cells (u).toArray 40)).alloc (.cells ((kis .u64 z5)).toArray 40))
  rw [← hw0]
  clear hw0
  go_upto_region 2 with (first
    | (go_at_call 27; refine (small_fe 1 _ (by omega)).mono ?_; rintro e y1 ⟨c1, rfl, hc, hk⟩; have HC1 := Lib.hid hc; clear hc; have B2_1 := Lib.hid (B2_0.out.kp0 hk); have B3_1 := Lib.hid (B3_0.out.kp0 hk); have B4_1 := Lib.hid (B4_0.out.kp0 hk); have KW_1 := Lib.hid (KW_0.out.tr hk); clear hk)
    | (refine wl_quiet_val (v := .agg ((c1 ++ (kis .u64 z5))).toArray) rfl (fun wq => run_build_fr1 wq _ _ 9 rfl (c1) (fe_len HC1.out) rfl) ?_)
    | (refine wl_store_blk rfl 60 (.tmp 5) (.tmp 10) rfl y1.heap.size _ (((kis .u64 z5) ++ (kis .u64 z5))) ((c1 ++ (kis .u64 z5))) rfl rfl (blk0 y1 _ _) (info_fr HC1.out fe_z5) (len_of (T := 60) (info_fr fe_z5 fe_z5) (info_fr HC1.out fe_z5)) (ones_app HC1.out.2.2.2 fe_z5.2.2.2) ?_; intro v2 hA hS; have B5_2 := Lib.hid hA; have hz : Kp0 y1 v2 := ((Kp.refl (fun _ => False) y1).alloc _).trans hS (fun _ _ h => h) (fun i hi e => by omega); have N2_2 : w.heap.size < y1.heap.size := B2_1.out.lt; have B2_2 := Lib.hid (B2_1.out.kp0 hz); have N3_2 : (w.heap.size + 1) < y1.heap.size := B3_1.out.lt; have B3_2 := Lib.hid (B3_1.out.kp0 hz); have N4_2 : (w.heap.size + 1 + 1) < y1.heap.size := B4_1.out.lt; have B4_2 := Lib.hid (B4_1.out.kp0 hz); have NW_2 : w.heap.size ≤ y1.heap.size := KW_1.out.size; have KW_2 := Lib.hid (KW_1.out.tr hz); clear hA hS hz))
  try simp only [Act.put]
  obtain ⟨g5, hg5⟩ : ∃ g, g = y1.heap.size := ⟨_, rfl⟩
  rw [← hg5] at B5_2 NW_2 N2_2 N3_2 N4_2
  rw [← hg5]
  clear hg5
  go_cut [6] (fun p6 wx => ∃ g6 : Nat, ∃ e6 : List Value, p6 = .pointer (some ⟨g6, 0, none⟩) ∧ (w.heap.size < g6 ∧ (w.heap.size + 1) < g6 ∧ (w.heap.size + 1 + 1) < g6 ∧ g5 < g6 ∧ w.heap.size ≤ g6) ∧ Fe El e6 1 ∧ Blk wx g6 60 (u ++ e6) ∧ Blk wx w.heap.size 32 ((bys l)) ∧ Blk wx (w.heap.size + 1) 40 (u) ∧ Blk wx (w.heap.size + 1 + 1) 40 ((kis .u64 z5)) ∧ Blk wx g5 60 ((c1 ++ (kis .u64 z5))) ∧ Kp0 w wx)
  case first =>
    have HK3_0 : Hid (Kp0 v2.drew v2.drew) := Lib.hid (Kp.refl _ _)
    refine wp_region_px 5 [] (fun w' : World => Kp0 v2.drew w') (.quiet 0 (.two 1 (.quiet 2 (.eff 3 (.eff 4 .done))) 3 (.eff 1 (.quiet 2 (.eff 4 .done))))) (by kernel_rfl) (by kernel_rfl) (by kernel_rfl) (by kernel_rfl) (fun _ d _ _ _ h => by cases d <;> exact h) HK3_0.out ?_
    refine px_quiet (v := .agg (u).toArray) rfl (by rfl) (fun wq hwq => run_load_blk 40 (.tmp 3) rfl (w.heap.size + 1) _ (u) rfl (B3_2.out.kp0 ((Kp.refl _ v2).drew.tr hwq)) _ Try.underlying40 rfl HU.out.2.2.1) rfl ?_
    try simp only [List.setIfInBounds_toArray, List.set_cons_zero, List.set_cons_succ]
    refine ⟨px_one rfl (by rfl) (fun K hK => ?_), px_one rfl (by rfl) (fun K hK => ?_)⟩
    · go_simp
      refine (small_fe 1 _ (by omega)).mono ?_
      rintro e ww4 ⟨c4, rfl, hc, hk⟩
      simp only []
      have HC4 := Lib.hid hc
      clear hc
      have HK4 : Hid (Kp0 v2.drew ww4) := Lib.hid (HK3_0.out.tr hk)
      clear hk
      refine hK (fun w' : World => Kp0 v2.drew w') _ _ (fun x h => h) HK4.out ?_
      clear hK K
      refine px_quiet (v := .agg ((u ++ c4)).toArray) rfl (by rfl) (fun wq hwq => run_build_fr wq _ _ 11 12 rfl (u) (c4) (fe_len HU.out) (fe_len HC4.out) rfl rfl) rfl ?_
      try simp only [List.setIfInBounds_toArray, List.set_cons_zero, List.set_cons_succ]
      refine px_eff rfl (by rfl) (fun K hK => ?_)
      go_simp
      refine hK (fun w' : World => Kp0 v2.drew w') _ _ (fun x h => h) (HK4.out.alloc _) ?_
      clear hK K
      have L6_5 : v2.drew.heap.size ≤ ww4.heap.size := HK4.out.size
      have HK5 : Hid (Kp0 v2.drew (ww4.alloc (.cells (((kis .u64 z5) ++ (kis .u64 z5))).toArray 60))) := Lib.hid (HK4.out.alloc _)
      have B6_5 : Hid (Blk (ww4.alloc (.cells (((kis .u64 z5) ++ (kis .u64 z5))).toArray 60)) ww4.heap.size 60 (((kis .u64 z5) ++ (kis .u64 z5)))) := Lib.hid (blk0 ww4 _ _)
      change PX.wp _ _ _ _ _ _ (ww4.alloc (.cells (((kis .u64 z5) ++ (kis .u64 z5))).toArray 60))
      generalize (ww4.alloc (.cells (((kis .u64 z5) ++ (kis .u64 z5))).toArray 60)) = ww5 at HK5 B6_5 ⊢
      refine px_eff rfl (by rfl) (fun K hK => ?_)
      refine wp_store_blk 60 (.tmp 6) (.tmp 13) rfl ww4.heap.size _ (((kis .u64 z5) ++ (kis .u64 z5))) ((u ++ c4)) rfl rfl B6_5.out (info_fr HU.out HC4.out) (len_of (T := 60) (info_fr fe_z5 fe_z5) (info_fr HU.out HC4.out)) (ones_app HU.out.2.2.2 HC4.out.2.2.2) ?_
      intro ww6 hA hS
      have B6_6 := Lib.hid hA
      have HK6 : Hid (Kp0 v2.drew ww6) := Lib.hid (HK5.out.trans hS (fun _ _ h => h) (fun i hi e => by omega))
      clear hA hS
      refine hK (fun w' : World => Kp0 v2.drew w') _ _ (fun x h => h) HK6.out ?_
      clear hK K
      refine px_done ?_
      have O2 : w.heap.size < v2.drew.heap.size := B2_2.out.lt
      have O3 : (w.heap.size + 1) < v2.drew.heap.size := B3_2.out.lt
      have O4 : (w.heap.size + 1 + 1) < v2.drew.heap.size := B4_2.out.lt
      have O5 : g5 < v2.drew.heap.size := B5_2.out.lt
      have OW : w.heap.size ≤ v2.drew.heap.size := KW_2.out.size
      go_wp2
      go_meet
      exact ⟨ww4.heap.size, c4, rfl, ⟨by omega, by omega, by omega, by omega, by omega⟩, HC4.out, B6_6.out, B2_2.out.kp0 ((Kp.refl _ v2).drew.tr HK6.out), B3_2.out.kp0 ((Kp.refl _ v2).drew.tr HK6.out), B4_2.out.kp0 ((Kp.refl _ v2).drew.tr HK6.out), B5_2.out.kp0 ((Kp.refl _ v2).drew.tr HK6.out), KW_2.out.tr ((Kp.refl _ v2).drew.tr HK6.out)⟩
    · go_simp
      refine hK (fun w' : World => Kp0 v2.drew w') _ _ (fun x h => h) (HK3_0.out.alloc _) ?_
      clear hK K
      have L6_7 : v2.drew.heap.size ≤ v2.drew.heap.size := HK3_0.out.size
      have HK7 : Hid (Kp0 v2.drew (v2.drew.alloc (.cells (((kis .u64 z5) ++ (kis .u64 z5))).toArray 60))) := Lib.hid (HK3_0.out.alloc _)
      have B6_7 : Hid (Blk (v2.drew.alloc (.cells (((kis .u64 z5) ++ (kis .u64 z5))).toArray 60)) v2.drew.heap.size 60 (((kis .u64 z5) ++ (kis .u64 z5)))) := Lib.hid (blk0 v2.drew _ _)
      change PX.wp _ _ _ _ _ _ (v2.drew.alloc (.cells (((kis .u64 z5) ++ (kis .u64 z5))).toArray 60))
      generalize (v2.drew.alloc (.cells (((kis .u64 z5) ++ (kis .u64 z5))).toArray 60)) = ww7 at HK7 B6_7 ⊢
      refine px_eff rfl (by rfl) (fun K hK => ?_)
      go_simp
      refine (small_fe 1 _ (by omega)).mono ?_
      rintro e ww8 ⟨c8, rfl, hc, hk⟩
      simp only []
      have HC8 := Lib.hid hc
      clear hc
      have HK8 : Hid (Kp0 v2.drew ww8) := Lib.hid (HK7.out.tr hk)
      have B6_8 := Lib.hid (B6_7.out.kp0 hk)
      clear hk
      refine hK (fun w' : World => Kp0 v2.drew w') _ _ (fun x h => h) HK8.out ?_
      clear hK K
      refine px_quiet (v := .agg ((u ++ c8)).toArray) rfl (by rfl) (fun wq hwq => run_build_fr wq _ _ 11 12 rfl (u) (c8) (fe_len HU.out) (fe_len HC8.out) rfl rfl) rfl ?_
      try simp only [List.setIfInBounds_toArray, List.set_cons_zero, List.set_cons_succ]
      refine px_eff rfl (by rfl) (fun K hK => ?_)
      refine wp_store_blk 60 (.tmp 6) (.tmp 13) rfl v2.drew.heap.size _ (((kis .u64 z5) ++ (kis .u64 z5))) ((u ++ c8)) rfl rfl B6_8.out (info_fr HU.out HC8.out) (len_of (T := 60) (info_fr fe_z5 fe_z5) (info_fr HU.out HC8.out)) (ones_app HU.out.2.2.2 HC8.out.2.2.2) ?_
      intro ww9 hA hS
      have B6_9 := Lib.hid hA
      have HK9 : Hid (Kp0 v2.drew ww9) := Lib.hid (HK8.out.trans hS (fun _ _ h => h) (fun i hi e => by omega))
      clear hA hS
      refine hK (fun w' : World => Kp0 v2.drew w') _ _ (fun x h => h) HK9.out ?_
      clear hK K
      refine px_done ?_
      have O2 : w.heap.size < v2.drew.heap.size := B2_2.out.lt
      have O3 : (w.heap.size + 1) < v2.drew.heap.size := B3_2.out.lt
      have O4 : (w.heap.size + 1 + 1) < v2.drew.heap.size := B4_2.out.lt
      have O5 : g5 < v2.drew.heap.size := B5_2.out.lt
      have OW : w.heap.size ≤ v2.drew.heap.size := KW_2.out.size
      go_wp2
      go_meet
      exact ⟨v2.drew.heap.size, c8, rfl, ⟨by omega, by omega, by omega, by omega, by omega⟩, HC8.out, B6_9.out, B2_2.out.kp0 ((Kp.refl _ v2).drew.tr HK9.out), B3_2.out.kp0 ((Kp.refl _ v2).drew.tr HK9.out), B4_2.out.kp0 ((Kp.refl _ v2).drew.tr HK9.out), B5_2.out.kp0 ((Kp.refl _ v2).drew.tr HK9.out), KW_2.out.tr ((Kp.refl _ v2).drew.tr HK9.out)⟩
  case rest =>
    obtain ⟨g6, e6, rfl, ⟨o0, o1, o2, o3, o4⟩, hf6, hb6, ho2, ho3, ho4, ho5, hkw⟩ := hcut
    have HT0 : Hid (TimS w l u g5 g6 (1, 0, x, 1) wc) := Lib.hid ⟨⟨c1, (kis .u64 z5), u, e6, ⟨HC1.out, fe_z5, HU.out, hf6⟩, ho5, hb6⟩, ho2, ho3, ho4, hkw⟩
    have HG : Hid (g5 ≠ g6 ∧ w.heap.size + 1 + 1 < g5 ∧ w.heap.size + 1 + 1 < g6) := Lib.hid (by omega)
    clear o0 o1 o2 o3 o4 hf6 hb6 ho2 ho3 ho4 ho5 hkw B2_2 B3_2 B4_2 B5_2 KW_2 HC1
    go_wp2
    go_loopg [7] 255 (fun gg i wr => ∃ (k : Nat), i = .int .i64 (254 - (k : Int)) ∧ k ≤ 255 ∧ gg = 255 - k ∧ TimS w l u g5 g6 (F (bl.take k)) wr)
    case atStart => exact ⟨0, rfl, by omega, rfl, by rw [HF0.out]; exact HT0.out⟩
    case round =>
      obtain ⟨k, rfl, hk, rfl, hr⟩ := hrel
      have HR := Lib.hid hr
      clear hr HT0
      obtain ⟨s, hs⟩ : ∃ s, s = F (bl.take k) := ⟨_, rfl⟩
      rw [← hs] at HR
      obtain ⟨⟨e1, e2, e3, e4, ⟨f1, f2, f3, f4⟩, hb5, hb6⟩, hb2, hb3, hb4, hkw⟩ := HR.out
      have H1 := Lib.hid f1
      have H2 := Lib.hid f2
      have H3 := Lib.hid f3
      have H4 := Lib.hid f4
      have B5_0 := Lib.hid hb5
      have B6_0 := Lib.hid hb6
      have B2_0 := Lib.hid hb2
      have B3_0 := Lib.hid hb3
      have B4_0 := Lib.hid hb4
      have KW_0 := Lib.hid hkw
      clear f1 f2 f3 f4 hb5 hb6 hb2 hb3 hb4 hkw HR
      obtain ⟨o56, o25, o26⟩ := HG.out
      by_cases h : k < 255
      · skip
        obtain ⟨j, hj⟩ : ∃ j : Nat, (254 : Int) - (k : Int) = (j : Int) := ⟨254 - k, by omega⟩
        obtain ⟨q, hq⟩ : ∃ q, q = j / 8 := ⟨_, rfl⟩
        obtain ⟨r, hr⟩ : ∃ r, r = j % 8 := ⟨_, rfl⟩
        have hq1 : (j : Int).tdiv 8 = (q : Int) := by rw [Int.tdiv_eq_ediv_of_nonneg (by omega)]; omega
        have hr1 : (j : Int).tmod 8 = (r : Int) := by rw [Int.tmod_eq_emod_of_nonneg (by omega)]; omega
        have hq32 : (q : Int) < 32 := by omega
        have hr8 : r < 8 := by omega
        have HQR : Hid (254 - k = 8 * q + r) := Lib.hid (by omega)
        clear hq hr
        obtain ⟨y, hy⟩ : ∃ y, y = (l[q]'(by rw [HL.out]; omega)).toNat := ⟨_, rfl⟩
        have hyb : y < 256 := by rw [hy]; exact UInt8.toNat_lt _
        have HST := Lib.hid (HSTEP.out k q r y h HQR.out hr8 (by rw [HL.out]; omega) hy)
        rw [← hs] at HST
        obtain ⟨b, hb⟩ : ∃ b, (y / 2 ^ r % 2 == 1) = b := ⟨_, rfl⟩
        have hcell : wr.cell? ⟨w.heap.size, q, none⟩ = some (.int .u8 y) := by
          have h0 := B2_0.out.cellB q (by rw [HL.out]; omega)
          rwa [← hy] at h0
        have hband : bits .and .u8 ((y : Int) / 2 ^ r) 1 = ((y / 2 ^ r % 2 : Nat) : Int) := and1_div8 y r _ hyb rfl
        have hbb : (((y / 2 ^ r % 2 : Nat) : Int) == 1) = b := by
          rw [← hb, Bool.eq_iff_iff, beq_iff_eq, beq_iff_eq]
          omega
        rw [hb] at HST
        have HB := Lib.hid hb
        clear hy hb hs hyb
        generalize y / 2 ^ r % 2 = bn at hband hbb
        rw [hj]
        go_upto_region 7 with (fail)
        clear hband hbb hcell hq1 hr1 hq32 HQR HB
        obtain ⟨p1, q1, p2, q2, cs1, f1, f2, f3, f4⟩ := swap_ex b H1.out H2.out H3.out H4.out
        have CS1 := Lib.hid cs1
        have P1 := Lib.hid f1
        have Q1 := Lib.hid f2
        have P2 := Lib.hid f3
        have Q2 := Lib.hid f4
        clear cs1 f1 f2 f3 f4
        go_upto_region 8 with (first
          | (refine wl_load_blk rfl 60 (.tmp 5) rfl g5 _ ((e1 ++ e2)) rfl B5_0.out _ Try.underlying60 rfl (info_fr H1.out H2.out) ?_)
          | (refine wl_load_blk rfl 60 (.tmp 6) rfl g6 _ ((e3 ++ e4)) rfl B6_0.out _ Try.underlying60 rfl (info_fr H3.out H4.out) ?_)
          | (go_at_call 28; refine (CS1.out _).mono ?_; rintro e y10 ⟨rfl, hk⟩; have B5_10 := Lib.hid (B5_0.out.kp0 hk); have B6_10 := Lib.hid (B6_0.out.kp0 hk); have B2_10 := Lib.hid (B2_0.out.kp0 hk); have B3_10 := Lib.hid (B3_0.out.kp0 hk); have B4_10 := Lib.hid (B4_0.out.kp0 hk); have KW_10 := Lib.hid (KW_0.out.tr hk); clear hk)
          | (refine wl_store_blk rfl 60 (.tmp 5) (.tmp 32) rfl g5 _ ((e1 ++ e2)) ((p1 ++ q1)) rfl rfl B5_10.out (info_fr P1.out Q1.out) (len_of (T := 60) (info_fr H1.out H2.out) (info_fr P1.out Q1.out)) (ones_app P1.out.2.2.2 Q1.out.2.2.2) ?_; intro v11 hA hS; have B5_11 := Lib.hid hA; have B6_11 := Lib.hid (B6_10.out.keep hS (fun e => by omega)); have B2_11 := Lib.hid (B2_10.out.keep hS (fun e => by omega)); have B3_11 := Lib.hid (B3_10.out.keep hS (fun e => by omega)); have B4_11 := Lib.hid (B4_10.out.keep hS (fun e => by omega)); have KW_11 : Hid (Kp0 w v11) := Lib.hid (KW_10.out.trans hS (fun _ _ h => h) (fun i hi e => by omega)); clear hA hS)
          | (refine wl_store_blk rfl 60 (.tmp 6) (.tmp 33) rfl g6 _ ((e3 ++ e4)) ((p2 ++ q2)) rfl rfl B6_11.out (info_fr P2.out Q2.out) (len_of (T := 60) (info_fr H3.out H4.out) (info_fr P2.out Q2.out)) (ones_app P2.out.2.2.2 Q2.out.2.2.2) ?_; intro v12 hA hS; have B5_12 := Lib.hid (B5_11.out.keep hS (fun e => by omega)); have B6_12 := Lib.hid hA; have B2_12 := Lib.hid (B2_11.out.keep hS (fun e => by omega)); have B3_12 := Lib.hid (B3_11.out.keep hS (fun e => by omega)); have B4_12 := Lib.hid (B4_11.out.keep hS (fun e => by omega)); have KW_12 : Hid (Kp0 w v12) := Lib.hid (KW_11.out.trans hS (fun _ _ h => h) (fun i hi e => by omega)); clear hA hS))
        have HK13_0 : Hid (Kp0 v12.drew v12.drew) := Lib.hid (Kp.refl _ _)
        refine wp_region_px 8 [6] (fun w' : World => Kp0 v12.drew w') (.quiet 0 (.quiet 2 (.quiet 3 (.quiet 4 (.eff 1 (.eff 5 (.wall 6 (.eff 7 .done)))))))) (by kernel_rfl) (by kernel_rfl) (by kernel_rfl) (by kernel_rfl) (fun _ d _ _ _ h => by cases d <;> exact h) HK13_0.out ?_
        refine px_quiet (v := .agg ((p1 ++ q1)).toArray) rfl (by rfl) (fun wq hwq => run_load_blk 60 (.tmp 5) rfl g5 _ ((p1 ++ q1)) rfl (B5_12.out.kp0 ((Kp.refl _ v12).drew.tr hwq)) _ Try.underlying60 rfl (info_fr P1.out Q1.out)) rfl ?_
        try dsimp only
        refine px_quiet (v := .agg ((p1 ++ q1)).toArray) rfl (by rfl) (fun wq hwq => run_load_blk 60 (.tmp 5) rfl g5 _ ((p1 ++ q1)) rfl (B5_12.out.kp0 ((Kp.refl _ v12).drew.tr hwq)) _ Try.underlying60 rfl (info_fr P1.out Q1.out)) rfl ?_
        try dsimp only
        refine px_quiet (v := .agg ((p2 ++ q2)).toArray) rfl (by rfl) (fun wq hwq => run_load_blk 60 (.tmp 6) rfl g6 _ ((p2 ++ q2)) rfl (B6_12.out.kp0 ((Kp.refl _ v12).drew.tr hwq)) _ Try.underlying60 rfl (info_fr P2.out Q2.out)) rfl ?_
        try dsimp only
        refine px_quiet (v := .agg (u).toArray) rfl (by rfl) (fun wq hwq => run_load_blk 40 (.tmp 3) rfl (w.heap.size + 1) _ (u) rfl (B3_12.out.kp0 ((Kp.refl _ v12).drew.tr hwq)) _ Try.underlying40 rfl HU.out.2.2.1) rfl ?_
        try dsimp only
        refine px_eff rfl (by rfl) (fun K hK => ?_)
        go_simp
        refine (frdouble_any p1 q1 _ _ _ P1.out Q1.out).mono ?_
        rintro e ww14 ⟨c14, d14, rfl, hc, hd, hk⟩
        simp only []
        have HC14 : Hid (Fe El c14 (Edw.pdX 57896044618658097711785492504343953926634992332820282019728792003956564819949 (if b then s.2.2.1 else s.1) (if b then s.2.2.2 else s.2.1))) := Lib.hid hc
        have HD14 : Hid (Fe El d14 (Edw.pdZ 57896044618658097711785492504343953926634992332820282019728792003956564819949 (if b then s.2.2.1 else s.1) (if b then s.2.2.2 else s.2.1))) := Lib.hid hd
        clear hc hd
        have HK14 : Hid (Kp0 v12.drew ww14) := Lib.hid (HK13_0.out.tr hk)
        clear hk
        refine hK (fun w' : World => Kp0 v12.drew w') _ _ (fun x h => h) HK14.out ?_
        clear hK K
        refine px_eff rfl (by rfl) (fun K hK => ?_)
        go_simp
        refine (fradd_any p1 q1 p2 q2 _ _ _ _ u _ _ P1.out Q1.out P2.out Q2.out HU.out).mono ?_
        rintro e ww15 ⟨c15, d15, rfl, hc, hd, hk⟩
        simp only []
        have HC15 : Hid (Fe El c15 (Edw.psX 57896044618658097711785492504343953926634992332820282019728792003956564819949 (if b then s.2.2.1 else s.1) (if b then s.2.2.2 else s.2.1) (if b then s.1 else s.2.2.1) (if b then s.2.1 else s.2.2.2))) := Lib.hid hc
        have HD15 : Hid (Fe El d15 (Edw.psZ 57896044618658097711785492504343953926634992332820282019728792003956564819949 x (if b then s.2.2.1 else s.1) (if b then s.2.2.2 else s.2.1) (if b then s.1 else s.2.2.1) (if b then s.2.1 else s.2.2.2))) := Lib.hid hd
        clear hc hd
        have HK15 : Hid (Kp0 v12.drew ww15) := Lib.hid (HK14.out.tr hk)
        clear hk
        refine hK (fun w' : World => Kp0 v12.drew w') _ _ (fun x h => h) HK15.out ?_
        clear hK K
        refine px_wall rfl (by rfl) (fun K hK => ?_)
        refine wp_store_blk 60 (.tmp 5) (.tmp 35) rfl g5 _ ((p1 ++ q1)) ((c14 ++ d14)) rfl rfl (B5_12.out.kp0 ((Kp.refl _ v12).drew.tr HK15.out)) (info_fr HC14.out HD14.out) (len_of (T := 60) (info_fr P1.out Q1.out) (info_fr HC14.out HD14.out)) (ones_app HC14.out.2.2.2 HD14.out.2.2.2) ?_
        intro ww16 hA hS
        have B5_16 := Lib.hid hA
        have B6_16 := Lib.hid ((B6_12.out.kp0 ((Kp.refl _ v12).drew.tr HK15.out)).keep hS (fun e => by omega))
        have B2_16 := Lib.hid ((B2_12.out.kp0 ((Kp.refl _ v12).drew.tr HK15.out)).keep hS (fun e => by omega))
        have B3_16 := Lib.hid ((B3_12.out.kp0 ((Kp.refl _ v12).drew.tr HK15.out)).keep hS (fun e => by omega))
        have B4_16 := Lib.hid ((B4_12.out.kp0 ((Kp.refl _ v12).drew.tr HK15.out)).keep hS (fun e => by omega))
        have KW_16 : Hid (Kp0 w ww16) := Lib.hid ((KW_12.out.tr ((Kp.refl _ v12).drew.tr HK15.out)).trans hS (fun _ _ h => h) (fun i hi e => by omega))
        clear hA hS
        refine hK (fun _ => True) _ _ trivial ?_
        clear hK K
        refine px_eff rfl (by rfl) (fun K hK => ?_)
        refine wp_store_blk 60 (.tmp 6) (.tmp 39) rfl g6 _ ((p2 ++ q2)) ((c15 ++ d15)) rfl rfl B6_16.out (info_fr HC15.out HD15.out) (len_of (T := 60) (info_fr P2.out Q2.out) (info_fr HC15.out HD15.out)) (ones_app HC15.out.2.2.2 HD15.out.2.2.2) ?_
        intro ww17 hA hS
        have B5_17 := Lib.hid (B5_16.out.keep hS (fun e => by omega))
        have B6_17 := Lib.hid hA
        have B2_17 := Lib.hid (B2_16.out.keep hS (fun e => by omega))
        have B3_17 := Lib.hid (B3_16.out.keep hS (fun e => by omega))
        have B4_17 := Lib.hid (B4_16.out.keep hS (fun e => by omega))
        have KW_17 : Hid (Kp0 w ww17) := Lib.hid (KW_16.out.trans hS (fun _ _ h => h) (fun i hi e => by omega))
        clear hA hS
        refine hK (fun _ => True) _ _ (fun _ h => h) trivial ?_
        clear hK K
        refine px_done ?_
        go_upto_region 9 with (fail)
        obtain ⟨p3, q3, p4, q4, cs2, f1, f2, f3, f4⟩ := swap_ex b HC14.out HD14.out HC15.out HD15.out
        have CS2 := Lib.hid cs2
        have P3 := Lib.hid f1
        have Q3 := Lib.hid f2
        have P4 := Lib.hid f3
        have Q4 := Lib.hid f4
        clear cs2 f1 f2 f3 f4
        go_wp2_with (first
          | (refine wl_load_blk rfl 60 (.tmp 5) rfl g5 _ ((c14 ++ d14)) rfl B5_17.out _ Try.underlying60 rfl (info_fr HC14.out HD14.out) ?_)
          | (refine wl_load_blk rfl 60 (.tmp 6) rfl g6 _ ((c15 ++ d15)) rfl B6_17.out _ Try.underlying60 rfl (info_fr HC15.out HD15.out) ?_)
          | (go_at_call 28; refine (CS2.out _).mono ?_; rintro e y18 ⟨rfl, hk⟩; have B5_18 := Lib.hid (B5_17.out.kp0 hk); have B6_18 := Lib.hid (B6_17.out.kp0 hk); have B2_18 := Lib.hid (B2_17.out.kp0 hk); have B3_18 := Lib.hid (B3_17.out.kp0 hk); have B4_18 := Lib.hid (B4_17.out.kp0 hk); have KW_18 := Lib.hid (KW_17.out.tr hk); clear hk)
          | (refine wl_store_blk rfl 60 (.tmp 5) (.tmp 45) rfl g5 _ ((c14 ++ d14)) ((p3 ++ q3)) rfl rfl B5_18.out (info_fr P3.out Q3.out) (len_of (T := 60) (info_fr HC14.out HD14.out) (info_fr P3.out Q3.out)) (ones_app P3.out.2.2.2 Q3.out.2.2.2) ?_; intro v19 hA hS; have B5_19 := Lib.hid hA; have B6_19 := Lib.hid (B6_18.out.keep hS (fun e => by omega)); have B2_19 := Lib.hid (B2_18.out.keep hS (fun e => by omega)); have B3_19 := Lib.hid (B3_18.out.keep hS (fun e => by omega)); have B4_19 := Lib.hid (B4_18.out.keep hS (fun e => by omega)); have KW_19 : Hid (Kp0 w v19) := Lib.hid (KW_18.out.trans hS (fun _ _ h => h) (fun i hi e => by omega)); clear hA hS)
          | (refine wl_store_blk rfl 60 (.tmp 6) (.tmp 46) rfl g6 _ ((c15 ++ d15)) ((p4 ++ q4)) rfl rfl B6_19.out (info_fr P4.out Q4.out) (len_of (T := 60) (info_fr HC15.out HD15.out) (info_fr P4.out Q4.out)) (ones_app P4.out.2.2.2 Q4.out.2.2.2) ?_; intro v20 hA hS; have B5_20 := Lib.hid (B5_19.out.keep hS (fun e => by omega)); have B6_20 := Lib.hid hA; have B2_20 := Lib.hid (B2_19.out.keep hS (fun e => by omega)); have B3_20 := Lib.hid (B3_19.out.keep hS (fun e => by omega)); have B4_20 := Lib.hid (B4_19.out.keep hS (fun e => by omega)); have KW_20 : Hid (Kp0 w v20) := Lib.hid (KW_19.out.trans hS (fun _ _ h => h) (fun i hi e => by omega)); clear hA hS))
        go_roundg (255 - (k + 1))
        case measure => omega
        case rel => exact ⟨k + 1, by go_num, by omega, rfl, by rw [HST.out, stpP_form]; exact ⟨⟨p3, q3, p4, q4, ⟨P3.out, Q3.out, P4.out, Q4.out⟩, B5_20.out, B6_20.out⟩, B2_20.out, B3_20.out, B4_20.out, KW_20.out⟩⟩
      · skip
        have hk255 : k = 255 := by omega
        subst hk255
        have HM := Lib.hid (HFIN.out)
        rw [← hs] at HM
        clear hs h hk
        have hm : (254 : Int) - ((255 : Nat) : Int) = -1 := by omega
        rw [hm]
        go_upto_region 10 with (fail)
        have HK21_0 : Hid (Kp0 wr.drew wr.drew) := Lib.hid (Kp.refl _ _)
        refine wp_region_px 7 [6] (fun w' : World => Kp0 wr.drew w') (.quiet 0 (.quiet 2 (.quiet 1 (.quiet 3 (.eff 4 (.eff 5 (.wall 6 .done))))))) (by kernel_rfl) (by kernel_rfl) (by kernel_rfl) (by kernel_rfl) (fun _ d _ _ _ h => by cases d <;> exact h) HK21_0.out ?_
        refine px_quiet (v := ?_) rfl (by rfl) (fun wq hwq => ?_) rfl ?_; rotate_left 1; (focus (go_simp; try (with_reducible rfl); done)); try simp only [List.setIfInBounds_toArray, List.set_cons_zero, List.set_cons_succ]
        refine px_quiet (v := ?_) rfl (by rfl) (fun wq hwq => ?_) rfl ?_; rotate_left 1; (focus (go_simp; try (with_reducible rfl); done)); try simp only [List.setIfInBounds_toArray, List.set_cons_zero, List.set_cons_succ]
        refine px_quiet (v := .agg (e1).toArray) rfl (by rfl) (fun wq hwq => run_load_mid 40 (.tmp 47) rfl g5 0 _ rfl (blk_l (B5_0.out.kp0 ((Kp.refl _ wr).drew.tr hwq))) _ Try.underlying40 rfl H1.out.2.2.1) rfl ?_
        try simp only [List.setIfInBounds_toArray, List.set_cons_zero, List.set_cons_succ]
        refine px_quiet (v := .agg (e2).toArray) rfl (by rfl) (fun wq hwq => run_load_mid 40 (.tmp 49) rfl g5 5 _ rfl (blk_r (fe_len H1.out) (B5_0.out.kp0 ((Kp.refl _ wr).drew.tr hwq))) _ Try.underlying40 rfl H2.out.2.2.1) rfl ?_
        try simp only [List.setIfInBounds_toArray, List.set_cons_zero, List.set_cons_succ]
        refine px_eff rfl (by rfl) (fun K hK => ?_)
        go_simp
        refine (inv_fe e2 _ _ H2.out).mono ?_
        rintro e ww22 ⟨c22, rfl, hc, hk⟩
        simp only []
        have HC22 : Hid (Fe El c22 (invN s.2.1)) := Lib.hid hc
        clear hc
        have HK22 : Hid (Kp0 wr.drew ww22) := Lib.hid (HK21_0.out.tr hk)
        clear hk
        refine hK (fun w' : World => Kp0 wr.drew w') _ _ (fun x h => h) HK22.out ?_
        clear hK K
        refine px_eff rfl (by rfl) (fun K hK => ?_)
        go_simp
        refine (mul_fe e1 c22 _ _ _ H1.out HC22.out).mono ?_
        rintro e ww23 ⟨c23, rfl, hc, hk⟩
        simp only []
        have HC23 : Hid (Fe El c23 (nM 57896044618658097711785492504343953926634992332820282019728792003956564819949 s.1 (invN s.2.1))) := Lib.hid hc
        clear hc
        have HK23 : Hid (Kp0 wr.drew ww23) := Lib.hid (HK22.out.tr hk)
        clear hk
        refine hK (fun w' : World => Kp0 wr.drew w') _ _ (fun x h => h) HK23.out ?_
        clear hK K
        refine px_wall rfl (by rfl) (fun K hK => ?_)
        refine wp_store_blk 40 (.tmp 4) (.tmp 52) rfl (w.heap.size + 1 + 1) _ ((kis .u64 z5)) (c23) rfl rfl (B4_0.out.kp0 ((Kp.refl _ wr).drew.tr HK23.out)) HC23.out.2.2.1 (len_of (T := 40) fe_z5.2.2.1 HC23.out.2.2.1) HC23.out.2.2.2 ?_
        intro ww24 hA hS
        have B5_24 := Lib.hid ((B5_0.out.kp0 ((Kp.refl _ wr).drew.tr HK23.out)).keep hS (fun e => by omega))
        have B6_24 := Lib.hid ((B6_0.out.kp0 ((Kp.refl _ wr).drew.tr HK23.out)).keep hS (fun e => by omega))
        have B2_24 := Lib.hid ((B2_0.out.kp0 ((Kp.refl _ wr).drew.tr HK23.out)).keep hS (fun e => by omega))
        have B3_24 := Lib.hid ((B3_0.out.kp0 ((Kp.refl _ wr).drew.tr HK23.out)).keep hS (fun e => by omega))
        have B4_24 := Lib.hid hA
        have KW_24 : Hid (Kp0 w ww24) := Lib.hid ((KW_0.out.tr ((Kp.refl _ wr).drew.tr HK23.out)).trans hS (fun _ _ h => h) (fun i hi e => by omega))
        clear hA hS
        refine hK (fun _ => True) _ _ trivial ?_
        clear hK K
        refine px_done ?_
        go_wp2
        refine ret_blk 4 40 40 (w.heap.size + 1 + 1) (c23) _ rfl rfl B4_24.out Try.underlying40 rfl HC23.out.2.2.1 rfl ?_
        exact ⟨_, rfl, by rw [HM.out _ rfl]; exact HC23.out, KW_24.out⟩
end Go.Proofs.Ytcnehbfcagghpaa
