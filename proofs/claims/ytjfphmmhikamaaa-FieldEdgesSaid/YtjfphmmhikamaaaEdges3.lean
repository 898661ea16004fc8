/- The law FieldEdges: its walk. -/
import Derived.Test.YtjfphmmhikamaaaReads3
namespace Go.Proofs.Ytjfphmmhikamaaa
open Go Go.RowKit
def edgeB (z : Nat) : List UInt8 := (List.replicate 32 0).set 0 (UInt8.ofNat z)
def edgeC (z : Nat) : List UInt8 := ((List.replicate 32 255).set 0 (UInt8.ofNat (237 + z))).set 31 127
theorem edge_b : ∀ z, z < 19 → readN (edgeB z) = z := by decide +kernel
theorem edge_c : ∀ z, z < 19 → readN (edgeC z) = z := by decide +kernel
theorem edge_d : ∀ z, z < 19 → readN ((edgeC z).set 31 255) = z := by decide +kernel
theorem beq_bys (l : List UInt8) : (l.map (fun c => (c.toNat : Int)) == l.map (fun c => (c.toNat : Int))) = true := beq_self_eq_true _
theorem bys_map (l : List UInt8) : bys l = (l.map (fun c => (c.toNat : Int))).map (Value.int .u8) := by simp [bys]
/-- The two rows of bytes. -/
def EdR (w : World) (gb gc : Nat) (lb lc : List UInt8) (wx : World) : Prop := Byt wx gb lb ∧ Byt wx gc lc ∧ Kp0 w wx ∧ w.heap.size ≤ gb ∧ w.heap.size ≤ gc ∧ gb ≠ gc
section
variable {w wx wy : World} {gb gc : Nat} {lb lc : List UInt8}
theorem byt_keep {S : Nat → Prop} {g : Nat} {l : List UInt8} (h : Byt wx g l) (hk : Kp S wx wy) (hs : ¬ S g) : Byt wy g l := blk_keep hk h hs
theorem EdR.kp0 (h : EdR w gb gc lb lc wx) (hk : Kp0 wx wy) : EdR w gb gc lb lc wy := ⟨byt_keep h.1 hk (fun h => h), byt_keep h.2.1 hk (fun h => h), h.2.2.1.tr hk, h.2.2.2⟩
theorem EdR.setB (h : EdR w gb gc lb lc wx) (i : Nat) (x : UInt8) : EdR w gb gc (lb.set i x) lc (wx.setCell ⟨gb, i, none⟩ (.int .u8 (x.toNat : Int))) :=
  ⟨h.1.set i x, byt_keep h.2.1 ((Kp.refl (fun b => b = gb) wx).setCell (p := ⟨gb, i, none⟩) (fun _ => rfl) _) (fun e => h.2.2.2.2.2 e.symm), h.2.2.1.setCell (p := ⟨gb, i, none⟩) (fun hlt => absurd hlt (Nat.not_lt.2 h.2.2.2.1)) _, h.2.2.2⟩
theorem EdR.setC (h : EdR w gb gc lb lc wx) (i : Nat) (x : UInt8) : EdR w gb gc lb (lc.set i x) (wx.setCell ⟨gc, i, none⟩ (.int .u8 (x.toNat : Int))) :=
  ⟨byt_keep h.1 ((Kp.refl (fun b => b = gc) wx).setCell (p := ⟨gc, i, none⟩) (fun _ => rfl) _) (fun e => h.2.2.2.2.2 e), h.2.1.set i x, h.2.2.1.setCell (p := ⟨gc, i, none⟩) (fun hlt => absurd hlt (Nat.not_lt.2 h.2.2.2.2.1)) _, h.2.2.2⟩
end
theorem ed_a (w : World) (l : List UInt8) : EdR w w.heap.size (w.heap.size + 1) l l ((w.alloc (.cells (bys l).toArray 5)).alloc (.cells (bys l).toArray 5)).drew := by
  refine ⟨byt_keep (wx := w.alloc (.cells (bys l).toArray 5)) (heap_alloc_new w _) (((Kp.refl (fun _ => False) _).alloc _).drew) (fun h => h), ?_, (((Kp.refl _ w).alloc _).alloc _).drew, Nat.le_refl _, by omega, by omega⟩
  have := heap_alloc_new (w.alloc (.cells (bys l).toArray 5)) (.cells (bys l).toArray 5)
  rw [size_alloc] at this
  exact this
theorem ed_b (w : World) (l : List UInt8) : EdR w (w.heap.size + 1) w.heap.size l l ((w.alloc (.cells (bys l).toArray 5)).alloc (.cells (bys l).toArray 5)).drew :=
  ⟨(ed_a w l).2.1, (ed_a w l).1, (ed_a w l).2.2.1, by omega, Nat.le_refl _, by omega⟩
theorem u8_val (z : Nat) (h : z < 256) : ((UInt8.ofNat z).toNat : Int) = z := by
  rw [UInt8.toNat_ofNat']
  omega
variable {R : List Value → Nat → Prop}
set_option maxRecDepth 20000 in
set_option maxHeartbeats 4000000 in
theorem fedges_walk (F : Fld R) (k : Int) (va : Value) (la : List UInt8) (w : World) (hva : Rd w va (bys la)) (hoa : ∀ g, va.ownBlock = some g → g < w.heap.size) :
    Calls Try.prog 10 #[.int .i64 k, va] w fun e w' => e = .returned (.bool true) ∧ Kp0 w w' := by
  obtain ⟨ao, capa, rfl, ha1, ha2, ha3⟩ := hva.shapeB
  have HF := Lib.hid F
  have HA := Lib.hid hva
  have HOA := Lib.hid hoa
  clear hva hoa F
  have m1 : -18 ≤ k.tmod 19 := by have := Int.lt_tmod_of_pos k (show (0 : Int) < 19 by decide); omega
  have m2 : k.tmod 19 ≤ 18 := by have := Int.tmod_lt_of_pos k (show (0 : Int) < 19 by decide); omega
  obtain ⟨z, hz⟩ : ∃ z : Nat, (k.tmod 19 + 19) % 19 = (z : Int) := ⟨((k.tmod 19 + 19) % 19).toNat, by omega⟩
  have hz1 : z < 19 := by omega
  have HZ := Lib.hid hz
  clear hz
  have hmk : ∀ u : World, (Instr.makeSlice 22 (.int .i64 32) (.int .i64 32)).run Try.prog u =
      .ok (.slice (some ⟨u.heap.size, 0, none⟩) 32 32) (u.alloc (.cells (bys (List.replicate 32 0)).toArray 5)) := fun u => by
    obtain ⟨i0, hi, hz0, hz1, hz2⟩ := info_parts infoB
    have h := run_make (P := Try.prog) u 22 5 i0 (.int .u8 0) Try.underlying22 hi hz0 .i64 .i64 (32 : Int) (32 : Int) (by omega) (Int.le_refl _) (by rw [hz2]; omega) (by omega)
    have e : (32 : Int).toNat = 32 := by omega
    rw [e] at h
    rw [show (bys (List.replicate 32 0)).toArray = madeCells #[.int .u8 0] 32 by kernel_rfl]
    simpa [hz1, Value.cells] using h
  go_enter Try.func10, Try.ntmps10
  go_wp2_with fail
  refine (fit_any HF.out _).mono ?_
  rintro e w1 ⟨rfl, hk1⟩
  have HK1 := Lib.hid hk1
  clear hk1
  go_upto_region 4 with (fail)
  rw [HZ.out]
  go_cut [5, 6] (fun v5 v6 wx => ∃ gb gc, v5 = .slice (some ⟨gb, 0, none⟩) 32 32 ∧ v6 = .slice (some ⟨gc, 0, none⟩) 32 32 ∧ EdR w1 gb gc (List.replicate 32 0) (List.replicate 32 0) wx)
  case first =>
    go_region
    all_goals
      go_wp2
      go_meet
      refine ⟨_, _, rfl, rfl, ?_⟩
      first
        | exact ed_a w1 (List.replicate 32 0)
        | exact ed_b w1 (List.replicate 32 0)
  case rest =>
    obtain ⟨gb, gc, rfl, rfl, hr⟩ := hcut
    have HR := Lib.hid hr
    clear hr hmk m1 m2
    have hcb := HR.out.1.cell 0 (by simp)
    have hfb := HR.out.1.frozen 0
    go_wp2
    have HR2 : Hid (EdR w1 gb gc (edgeB z) (List.replicate 32 0) (wc.setCell ⟨gb, 0, none⟩ (.int .u8 (z : Int)))) := Lib.hid (by
      have := HR.out.setB 0 (UInt8.ofNat z)
      rw [u8_val z (by omega)] at this
      exact this)
    generalize wc.setCell ⟨gb, 0, none⟩ (.int .u8 (z : Int)) = w2 at HR2
    clear hcb hfb HR
    go_loopg [30] 32 (fun g i wr => ∃ (k : Nat), i = .int .i64 k ∧ k ≤ 32 ∧ g = 32 - k ∧ EdR w1 gb gc (edgeB z) (List.replicate k 255 ++ List.replicate (32 - k) 0) wr)
    case atStart => exact ⟨0, rfl, by omega, rfl, HR2.out⟩
    case round =>
      obtain ⟨k, rfl, hk, rfl, hr⟩ := hrel
      have HR := Lib.hid hr
      clear hr
      by_cases h : k < 32
      · have hc := HR.out.2.1.cell k (by simp; omega)
        have hf := HR.out.2.1.frozen k
        rw [ones_at2 k h] at hc
        go_wp2
        go_roundg (32 - (k + 1))
        case measure => omega
        case rel =>
          refine ⟨k + 1, by go_num, by omega, rfl, ?_⟩
          rw [← ones_set2 k h]
          exact HR.out.setC k 255
      · obtain rfl : k = 32 := by omega
        have hc := HR.out.2.1.cell 0 (by simp)
        have hc2 := HR.out.2.1.cell 31 (by simp)
        have hf := HR.out.2.1.frozen 0
        have hf2 := HR.out.2.1.frozen 31
        go_wp2_with fail
        have HR3 : Hid (EdR w1 gb gc (edgeB z) (edgeC z) ((wr.setCell ⟨gc, 0, none⟩ (.int .u8 (237 + (z : Int)))).setCell ⟨gc, 31, none⟩ (.int .u8 127))) := Lib.hid (by
          have := (HR.out.setC 0 (UInt8.ofNat (237 + z))).setC 31 127
          rw [u8_val (237 + z) (by omega)] at this
          exact this)
        generalize (wr.setCell ⟨gc, 0, none⟩ (.int .u8 (237 + (z : Int)))).setCell ⟨gc, 31, none⟩ (.int .u8 127) = w3 at HR3
        clear hc hc2 hf hf2 HR
        refine (HF.out.read (.slice (some ⟨gb, 0, none⟩) 32 32) (edgeB z) w3 (Byt.rd HR3.out.1 (by simp [edgeB])) (fun g' hg => by have := blk_lt HR3.out.1; simp [Value.ownBlock] at hg; omega)).mono ?_
        rw [edge_b z hz1]
        rintro e r1 ⟨c1, rfl, hc1, hk1⟩
        have Hc1 := Lib.hid hc1
        have HQ1 := Lib.hid (HR3.out.kp0 hk1)
        have HP1 := Lib.hid hk1
        clear hc1 hk1
        go_wp2_with (
          (refine wl_store_blk rfl 45 (.tmp 8) (.tmp 47) rfl r1.heap.size _ _ c1 rfl rfl (blk0 r1 _ _) Hc1.out.2.2.1 (len_of (T := 45) (by kernel_rfl) Hc1.out.2.2.1) Hc1.out.2.2.2 ?_
           intro v1 hA1 hK1
           have hh : Kp0 r1 v1 := kp_blk hK1 ((Kp.refl _ r1).alloc _) (Nat.le_refl _)
           have HB1 := Lib.hid hA1
           have HV1 := Lib.hid (HQ1.out.kp0 hh)
           have HT1 := Lib.hid (HP1.out.tr hh)
           clear hA1 hK1 hh))
        refine (HF.out.read (.slice (some ⟨gc, 0, none⟩) 32 32) (edgeC z) v1 (Byt.rd HV1.out.2.1 (by simp [edgeC])) (fun g' hg => by have := blk_lt HV1.out.2.1; simp [Value.ownBlock] at hg; omega)).mono ?_
        rw [edge_c z hz1]
        rintro e r2 ⟨c2, rfl, hc2, hk2⟩
        have Hc2 := Lib.hid hc2
        have HQ2 := Lib.hid (HV1.out.kp0 hk2)
        have HP2 := Lib.hid hk2
        clear hc2 hk2
        have hc31 := HQ2.out.2.1.cell 31 (by simp [edgeC])
        clear hc31
        go_upto_region 14 with (
          (refine wl_store_blk rfl 45 (.tmp 10) (.tmp 52) rfl r2.heap.size _ _ c2 rfl rfl (blk0 r2 _ _) Hc2.out.2.2.1 (len_of (T := 45) (by kernel_rfl) Hc2.out.2.2.1) Hc2.out.2.2.2 ?_
           intro v2 hA2 hK2
           have hh : Kp0 r2 v2 := kp_blk hK2 ((Kp.refl _ r2).alloc _) (Nat.le_refl _)
           have HB2 := Lib.hid hA2
           have HV2 := Lib.hid (HQ2.out.kp0 hh)
           have HT2 := Lib.hid (HP2.out.tr hh)
           clear hA2 hK2 hh))
        try simp only [Act.put]
        have hc31 := HV2.out.2.1.cell 31 (by simp [edgeC])
        have hf31 := HV2.out.2.1.frozen 31
        go_wp2_with fail
        have HR5 : Hid (EdR w1 gb gc (edgeB z) ((edgeC z).set 31 255) (v2.setCell ⟨gc, 31, none⟩ (.int .u8 255))) := Lib.hid (HV2.out.setC 31 255)
        have HS5 : Hid (Kp (fun b => b = gc) v2 (v2.setCell ⟨gc, 31, none⟩ (.int .u8 255))) := Lib.hid ((Kp.refl (fun b => b = gc) v2).setCell (p := ⟨gc, 31, none⟩) (fun _ => rfl) _)
        generalize v2.setCell ⟨gc, 31, none⟩ (.int .u8 255) = w5 at HR5 HS5
        clear hc31 hf31
        refine (HF.out.read (.slice (some ⟨gc, 0, none⟩) 32 32) ((edgeC z).set 31 255) w5 (Byt.rd HR5.out.2.1 (by simp [edgeC])) (fun g' hg => by have := blk_lt HR5.out.2.1; simp [Value.ownBlock] at hg; omega)).mono ?_
        rw [edge_d z hz1]
        rintro e r3 ⟨c3, rfl, hc3, hk3⟩
        have Hc3 := Lib.hid hc3
        have HQ3 := Lib.hid (HR5.out.kp0 hk3)
        have HP3 := Lib.hid hk3
        clear hc3 hk3
        go_wp2_with (
          (refine wl_store_blk rfl 45 (.tmp 12) (.tmp 59) rfl r3.heap.size _ _ c3 rfl rfl (blk0 r3 _ _) Hc3.out.2.2.1 (len_of (T := 45) (by kernel_rfl) Hc3.out.2.2.1) Hc3.out.2.2.2 ?_
           intro v3 hA3 hK3
           have hh : Kp0 r3 v3 := kp_blk hK3 ((Kp.refl _ r3).alloc _) (Nat.le_refl _)
           have HB3 := Lib.hid hA3
           have HV3 := Lib.hid (HQ3.out.kp0 hh)
           have HT3 := Lib.hid (HP3.out.tr hh)
           clear hA3 hK3 hh))
        have HX1 : Hid (Blk v3 r1.heap.size 45 c1) := Lib.hid (((HB1.out.kp0 HT2.out).keep HS5.out (fun e => by have := blk_lt HR3.out.2.1; have := HP1.out.size; omega)).kp0 HT3.out)
        have HX2 : Hid (Blk v3 r2.heap.size 45 c2) := Lib.hid ((HB2.out.keep HS5.out (fun e => by have := blk_lt HV1.out.2.1; have := HP2.out.size; omega)).kp0 HT3.out)
        have HG4 : Hid (r1.heap.size < v3.heap.size ∧ r2.heap.size < v3.heap.size ∧ r3.heap.size < v3.heap.size) := Lib.hid ⟨HX1.out.lt, HX2.out.lt, HB3.out.lt⟩
        have HC1 := Hc1
        have HC2 := Hc2
        have HC3 := Hc3
        have HWZ : Hid (IntKind.u32.wrap (z : Int) = (z : Int)) := Lib.hid (by rw [IntKind.wrap_u32]; omega)
        obtain ⟨bo, hbo⟩ : ∃ b, b = decide (la.length = 32) := ⟨_, rfl⟩
        have HBO := Lib.hid hbo
        clear hbo
        refine (HF.out.read _ la v3 (HA.out.keep0 (HK1.out.tr HV3.out.2.2.1)) (fun g' hg => by have := HOA.out g' hg; have := HK1.out.size; have := HV3.out.2.2.1.size; omega)).mono ?_
        rw [← HBO.out]
        obtain ⟨m, hm⟩ : ∃ m, m = readN la := ⟨_, rfl⟩
        rw [← hm]
        clear hm
        rintro e r4 ⟨c4, rfl, hc4, hk4⟩
        have HC4 := Lib.hid hc4
        have HP4 : Hid (Kp0 v3 r4) := Lib.hid hk4
        clear hc4 hk4
        cases bo
        · go_wp2_with (
            (refine wl_store_blk rfl 45 (.tmp 14) (.tmp 64) rfl r4.heap.size _ _ c4 rfl rfl (blk0 r4 _ _) HC4.out.2.2.1 (len_of (T := 45) (by kernel_rfl) HC4.out.2.2.1) HC4.out.2.2.2 ?_
             intro v4 hA4 hK4
             have hh : Kp0 v3 v4 := HP4.out.tr (kp_blk hK4 ((Kp.refl _ r4).alloc _) (Nat.le_refl _))
             have HB4 := Lib.hid hA4
             have HY1 := Lib.hid (HX1.out.kp0 hh)
             have HY2 := Lib.hid (HX2.out.kp0 hh)
             have HY3 := Lib.hid (HB3.out.kp0 hh)
             have HW4 : Hid (Kp0 w v4) := Lib.hid ((HK1.out.tr HV3.out.2.2.1).tr hh)
             clear hA4 hK4 hh))
          try rw [HWZ.out]
          refine (HF.out.small z v4 (by omega)).mono ?_
          rintro e r5 ⟨c5, rfl, hc5, hk5⟩
          have HC5 := Lib.hid hc5
          have HP5 : Hid (Kp0 v4 r5) := Lib.hid hk5
          clear hc5 hk5
          go_upto_region 19 with (
            (refine wl_store_blk rfl 45 (.tmp 14) (.tmp 70) rfl r4.heap.size _ c4 c5 rfl rfl (HB4.out.kp0 HP5.out) HC5.out.2.2.1 (len_of HC4.out.2.2.1 HC5.out.2.2.1) HC5.out.2.2.2 ?_
             intro v6 hA6 hK6
             have HB6 := Lib.hid hA6
             have HZ1 := Lib.hid ((HY1.out.kp0 HP5.out).keep hK6 (fun e => by have := HG4.out; have := HP4.out.size; omega))
             have HZ2 := Lib.hid ((HY2.out.kp0 HP5.out).keep hK6 (fun e => by have := HG4.out; have := HP4.out.size; omega))
             have HZ3 := Lib.hid ((HY3.out.kp0 HP5.out).keep hK6 (fun e => by have := HG4.out; have := HP4.out.size; omega))
             have HW6 : Hid (Kp0 w v6) := Lib.hid ((HW4.out.tr HP5.out).trans hK6 (fun _ _ h => h) (fun i hi e => by have := HK1.out.size; have := HV3.out.2.2.1.size; have := HP4.out.size; omega))
             clear hA6 hK6))
          try simp only [Act.put]
          have HS0 : Hid (Kp0 v6 v6.drew) := Lib.hid ((Kp.refl _ v6).drew)
          refine wp_region_wall [] (fun w' : World => Kp0 v6 w') (.quiet 0 (.quiet 1 (.eff 2 (.quiet 3 (.quiet 4 (.quiet 5 (.eff 6 (.quiet 7 (.quiet 8 (.quiet 9 (.quiet 11 (.eff 10 (.eff 12 (.quiet 13 (.quiet 14 (.quiet 15 (.quiet 16 (.quiet 18 (.eff 17 (.eff 19 (.quiet 20 (.quiet 21 (.quiet 22 (.quiet 23 (.quiet 24 (.quiet 26 (.quiet 27 (.eff 25 (.eff 28 (.eff 29 (.quiet 30 (.quiet 31 (.quiet 32 (.quiet 33 (.quiet 35 (.quiet 36 (.eff 34 (.eff 37 (.eff 38 (.quiet 39 (.quiet 40 (.quiet 41 (.quiet 42 (.quiet 43 (.eff 44 (.eff 45 (.quiet 46 (.quiet 47 .done)))))))))))))))))))))))))))))))))))))))))))))))) (by kernel_rfl) (by kernel_rfl) (by kernel_rfl) (by kernel_rfl) (fun _ d _ _ _ h => by cases d <;> exact h) HS0.out ?_
          repeat (first
            | (refine pw_quiet (v := .agg c1.toArray) rfl (by rfl) (fun wq hwq => run_load_blk 45 (.tmp 8) rfl r1.heap.size _ c1 rfl (HZ1.out.kp0 hwq) _ Try.underlying45 rfl HC1.out.2.2.1) rfl ?_; simp only [List.setIfInBounds_toArray, List.set_cons_zero, List.set_cons_succ])
            | (refine pw_quiet (v := .agg c2.toArray) rfl (by rfl) (fun wq hwq => run_load_blk 45 (.tmp 10) rfl r2.heap.size _ c2 rfl (HZ2.out.kp0 hwq) _ Try.underlying45 rfl HC2.out.2.2.1) rfl ?_; simp only [List.setIfInBounds_toArray, List.set_cons_zero, List.set_cons_succ])
            | (refine pw_quiet (v := .agg c3.toArray) rfl (by rfl) (fun wq hwq => run_load_blk 45 (.tmp 12) rfl r3.heap.size _ c3 rfl (HZ3.out.kp0 hwq) _ Try.underlying45 rfl HC3.out.2.2.1) rfl ?_; simp only [List.setIfInBounds_toArray, List.set_cons_zero, List.set_cons_succ])
            | (refine pw_quiet (v := .agg c5.toArray) rfl (by rfl) (fun wq hwq => run_load_blk 45 (.tmp 14) rfl r4.heap.size _ c5 rfl (HB6.out.kp0 hwq) _ Try.underlying45 rfl HC5.out.2.2.1) rfl ?_; simp only [List.setIfInBounds_toArray, List.set_cons_zero, List.set_cons_succ])
            | (refine pw_quiet (v := .bool (((leB 32 z).map (fun c => (c.toNat : Int))) == ((leB 32 z).map (fun c => (c.toNat : Int))))) rfl (by rfl) (fun wq _ => run_op_eql wq (.tmp 81) (.tmp 83) rfl ((leB 32 z).map (fun c => (c.toNat : Int))) ((leB 32 z).map (fun c => (c.toNat : Int))) (by rw [← bys_map]; rfl) (by rw [← bys_map]; rfl) Try.underlying70 Try.underlying5 (by kernel_rfl) (by kernel_rfl) (by simp [leB_len]) (by simp [leB_len])) rfl ?_; rw [beq_self_eq_true]; simp only [List.setIfInBounds_toArray, List.set_cons_zero, List.set_cons_succ])
            | (refine pw_quiet (v := ?_) rfl (by rfl) (fun wq hwq => ?_) rfl ?_; rotate_left 1; (focus (go_simp; try (with_reducible rfl); done)); simp only [List.setIfInBounds_toArray, List.set_cons_zero, List.set_cons_succ])
            | (refine pw_skip rfl (by rfl) rfl ?_; simp only [List.setIfInBounds_toArray, List.set_cons_zero, List.set_cons_succ])
            | (refine pw_skipE rfl (by rfl) rfl ?_; simp only [List.setIfInBounds_toArray, List.set_cons_zero, List.set_cons_succ]))
          refine pw_eff rfl (by rfl) (fun K hK => ?_)
          go_simp
          refine (HF.out.same c1 c2 z z _ HC1.out HC2.out).mono ?_
          rw [decide_eq_true rfl]
          rintro e x1 ⟨rfl, hk1⟩
          simp only []
          have HS1 : Hid (Kp0 v6 x1) := Lib.hid (HS0.out.tr hk1)
          clear hk1
          refine hK (fun w' : World => Kp0 v6 w') _ _ (fun x h => h) HS1.out ?_
          clear hK K
          repeat (first
            | (refine pw_quiet (v := .agg c1.toArray) rfl (by rfl) (fun wq hwq => run_load_blk 45 (.tmp 8) rfl r1.heap.size _ c1 rfl (HZ1.out.kp0 hwq) _ Try.underlying45 rfl HC1.out.2.2.1) rfl ?_; simp only [List.setIfInBounds_toArray, List.set_cons_zero, List.set_cons_succ])
            | (refine pw_quiet (v := .agg c2.toArray) rfl (by rfl) (fun wq hwq => run_load_blk 45 (.tmp 10) rfl r2.heap.size _ c2 rfl (HZ2.out.kp0 hwq) _ Try.underlying45 rfl HC2.out.2.2.1) rfl ?_; simp only [List.setIfInBounds_toArray, List.set_cons_zero, List.set_cons_succ])
            | (refine pw_quiet (v := .agg c3.toArray) rfl (by rfl) (fun wq hwq => run_load_blk 45 (.tmp 12) rfl r3.heap.size _ c3 rfl (HZ3.out.kp0 hwq) _ Try.underlying45 rfl HC3.out.2.2.1) rfl ?_; simp only [List.setIfInBounds_toArray, List.set_cons_zero, List.set_cons_succ])
            | (refine pw_quiet (v := .agg c5.toArray) rfl (by rfl) (fun wq hwq => run_load_blk 45 (.tmp 14) rfl r4.heap.size _ c5 rfl (HB6.out.kp0 hwq) _ Try.underlying45 rfl HC5.out.2.2.1) rfl ?_; simp only [List.setIfInBounds_toArray, List.set_cons_zero, List.set_cons_succ])
            | (refine pw_quiet (v := .bool (((leB 32 z).map (fun c => (c.toNat : Int))) == ((leB 32 z).map (fun c => (c.toNat : Int))))) rfl (by rfl) (fun wq _ => run_op_eql wq (.tmp 81) (.tmp 83) rfl ((leB 32 z).map (fun c => (c.toNat : Int))) ((leB 32 z).map (fun c => (c.toNat : Int))) (by rw [← bys_map]; rfl) (by rw [← bys_map]; rfl) Try.underlying70 Try.underlying5 (by kernel_rfl) (by kernel_rfl) (by simp [leB_len]) (by simp [leB_len])) rfl ?_; rw [beq_self_eq_true]; simp only [List.setIfInBounds_toArray, List.set_cons_zero, List.set_cons_succ])
            | (refine pw_quiet (v := ?_) rfl (by rfl) (fun wq hwq => ?_) rfl ?_; rotate_left 1; (focus (go_simp; try (with_reducible rfl); done)); simp only [List.setIfInBounds_toArray, List.set_cons_zero, List.set_cons_succ])
            | (refine pw_skip rfl (by rfl) rfl ?_; simp only [List.setIfInBounds_toArray, List.set_cons_zero, List.set_cons_succ])
            | (refine pw_skipE rfl (by rfl) rfl ?_; simp only [List.setIfInBounds_toArray, List.set_cons_zero, List.set_cons_succ]))
          refine pw_eff rfl (by rfl) (fun K hK => ?_)
          go_simp
          refine (HF.out.same c2 c3 z z _ HC2.out HC3.out).mono ?_
          rw [decide_eq_true rfl]
          rintro e x2 ⟨rfl, hk2⟩
          simp only []
          have HS2 : Hid (Kp0 v6 x2) := Lib.hid (HS1.out.tr hk2)
          clear hk2
          refine hK (fun w' : World => Kp0 v6 w') _ _ (fun x h => h) HS2.out ?_
          clear hK K
          repeat (first
            | (refine pw_quiet (v := .agg c1.toArray) rfl (by rfl) (fun wq hwq => run_load_blk 45 (.tmp 8) rfl r1.heap.size _ c1 rfl (HZ1.out.kp0 hwq) _ Try.underlying45 rfl HC1.out.2.2.1) rfl ?_; simp only [List.setIfInBounds_toArray, List.set_cons_zero, List.set_cons_succ])
            | (refine pw_quiet (v := .agg c2.toArray) rfl (by rfl) (fun wq hwq => run_load_blk 45 (.tmp 10) rfl r2.heap.size _ c2 rfl (HZ2.out.kp0 hwq) _ Try.underlying45 rfl HC2.out.2.2.1) rfl ?_; simp only [List.setIfInBounds_toArray, List.set_cons_zero, List.set_cons_succ])
            | (refine pw_quiet (v := .agg c3.toArray) rfl (by rfl) (fun wq hwq => run_load_blk 45 (.tmp 12) rfl r3.heap.size _ c3 rfl (HZ3.out.kp0 hwq) _ Try.underlying45 rfl HC3.out.2.2.1) rfl ?_; simp only [List.setIfInBounds_toArray, List.set_cons_zero, List.set_cons_succ])
            | (refine pw_quiet (v := .agg c5.toArray) rfl (by rfl) (fun wq hwq => run_load_blk 45 (.tmp 14) rfl r4.heap.size _ c5 rfl (HB6.out.kp0 hwq) _ Try.underlying45 rfl HC5.out.2.2.1) rfl ?_; simp only [List.setIfInBounds_toArray, List.set_cons_zero, List.set_cons_succ])
            | (refine pw_quiet (v := .bool (((leB 32 z).map (fun c => (c.toNat : Int))) == ((leB 32 z).map (fun c => (c.toNat : Int))))) rfl (by rfl) (fun wq _ => run_op_eql wq (.tmp 81) (.tmp 83) rfl ((leB 32 z).map (fun c => (c.toNat : Int))) ((leB 32 z).map (fun c => (c.toNat : Int))) (by rw [← bys_map]; rfl) (by rw [← bys_map]; rfl) Try.underlying70 Try.underlying5 (by kernel_rfl) (by kernel_rfl) (by simp [leB_len]) (by simp [leB_len])) rfl ?_; rw [beq_self_eq_true]; simp only [List.setIfInBounds_toArray, List.set_cons_zero, List.set_cons_succ])
            | (refine pw_quiet (v := ?_) rfl (by rfl) (fun wq hwq => ?_) rfl ?_; rotate_left 1; (focus (go_simp; try (with_reducible rfl); done)); simp only [List.setIfInBounds_toArray, List.set_cons_zero, List.set_cons_succ])
            | (refine pw_skip rfl (by rfl) rfl ?_; simp only [List.setIfInBounds_toArray, List.set_cons_zero, List.set_cons_succ])
            | (refine pw_skipE rfl (by rfl) rfl ?_; simp only [List.setIfInBounds_toArray, List.set_cons_zero, List.set_cons_succ]))
          refine pw_eff rfl (by rfl) (fun K hK => ?_)
          go_simp
          refine (HF.out.bytes c1 z _ HC1.out).mono ?_
          rintro e x3 ⟨rfl, hk3⟩
          simp only []
          have HS3 : Hid (Kp0 v6 x3) := Lib.hid (HS2.out.tr hk3)
          clear hk3
          refine hK (fun w' : World => Kp0 v6 w') _ _ (fun x h => h) HS3.out ?_
          clear hK K
          refine pw_eff rfl (by rfl) (fun K hK => ?_)
          go_simp
          refine (HF.out.bytes c2 z _ HC2.out).mono ?_
          rintro e x4 ⟨rfl, hk4⟩
          simp only []
          have HS4 : Hid (Kp0 v6 x4) := Lib.hid (HS3.out.tr hk4)
          clear hk4
          refine hK (fun w' : World => Kp0 v6 w') _ _ (fun x h => h) HS4.out ?_
          clear hK K
          repeat (first
            | (refine pw_quiet (v := .agg c1.toArray) rfl (by rfl) (fun wq hwq => run_load_blk 45 (.tmp 8) rfl r1.heap.size _ c1 rfl (HZ1.out.kp0 hwq) _ Try.underlying45 rfl HC1.out.2.2.1) rfl ?_; simp only [List.setIfInBounds_toArray, List.set_cons_zero, List.set_cons_succ])
            | (refine pw_quiet (v := .agg c2.toArray) rfl (by rfl) (fun wq hwq => run_load_blk 45 (.tmp 10) rfl r2.heap.size _ c2 rfl (HZ2.out.kp0 hwq) _ Try.underlying45 rfl HC2.out.2.2.1) rfl ?_; simp only [List.setIfInBounds_toArray, List.set_cons_zero, List.set_cons_succ])
            | (refine pw_quiet (v := .agg c3.toArray) rfl (by rfl) (fun wq hwq => run_load_blk 45 (.tmp 12) rfl r3.heap.size _ c3 rfl (HZ3.out.kp0 hwq) _ Try.underlying45 rfl HC3.out.2.2.1) rfl ?_; simp only [List.setIfInBounds_toArray, List.set_cons_zero, List.set_cons_succ])
            | (refine pw_quiet (v := .agg c5.toArray) rfl (by rfl) (fun wq hwq => run_load_blk 45 (.tmp 14) rfl r4.heap.size _ c5 rfl (HB6.out.kp0 hwq) _ Try.underlying45 rfl HC5.out.2.2.1) rfl ?_; simp only [List.setIfInBounds_toArray, List.set_cons_zero, List.set_cons_succ])
            | (refine pw_quiet (v := .bool (((leB 32 z).map (fun c => (c.toNat : Int))) == ((leB 32 z).map (fun c => (c.toNat : Int))))) rfl (by rfl) (fun wq _ => run_op_eql wq (.tmp 81) (.tmp 83) rfl ((leB 32 z).map (fun c => (c.toNat : Int))) ((leB 32 z).map (fun c => (c.toNat : Int))) (by rw [← bys_map]; rfl) (by rw [← bys_map]; rfl) Try.underlying70 Try.underlying5 (by kernel_rfl) (by kernel_rfl) (by simp [leB_len]) (by simp [leB_len])) rfl ?_; rw [beq_self_eq_true]; simp only [List.setIfInBounds_toArray, List.set_cons_zero, List.set_cons_succ])
            | (refine pw_quiet (v := ?_) rfl (by rfl) (fun wq hwq => ?_) rfl ?_; rotate_left 1; (focus (go_simp; try (with_reducible rfl); done)); simp only [List.setIfInBounds_toArray, List.set_cons_zero, List.set_cons_succ])
            | (refine pw_skip rfl (by rfl) rfl ?_; simp only [List.setIfInBounds_toArray, List.set_cons_zero, List.set_cons_succ])
            | (refine pw_skipE rfl (by rfl) rfl ?_; simp only [List.setIfInBounds_toArray, List.set_cons_zero, List.set_cons_succ]))
          refine pw_eff rfl (by rfl) (fun K hK => ?_)
          go_simp
          refine (HF.out.odd c1 z _ HC1.out).mono ?_
          rintro e x5 ⟨rfl, hk5⟩
          simp only []
          have HS5 : Hid (Kp0 v6 x5) := Lib.hid (HS4.out.tr hk5)
          clear hk5
          refine hK (fun w' : World => Kp0 v6 w') _ _ (fun x h => h) HS5.out ?_
          clear hK K
          refine pw_eff rfl (by rfl) (fun K hK => ?_)
          go_simp
          refine (HF.out.odd c2 z _ HC2.out).mono ?_
          rintro e x6 ⟨rfl, hk6⟩
          simp only []
          have HS6 : Hid (Kp0 v6 x6) := Lib.hid (HS5.out.tr hk6)
          clear hk6
          refine hK (fun w' : World => Kp0 v6 w') _ _ (fun x h => h) HS6.out ?_
          clear hK K
          repeat (first
            | (refine pw_quiet (v := .agg c1.toArray) rfl (by rfl) (fun wq hwq => run_load_blk 45 (.tmp 8) rfl r1.heap.size _ c1 rfl (HZ1.out.kp0 hwq) _ Try.underlying45 rfl HC1.out.2.2.1) rfl ?_; simp only [List.setIfInBounds_toArray, List.set_cons_zero, List.set_cons_succ])
            | (refine pw_quiet (v := .agg c2.toArray) rfl (by rfl) (fun wq hwq => run_load_blk 45 (.tmp 10) rfl r2.heap.size _ c2 rfl (HZ2.out.kp0 hwq) _ Try.underlying45 rfl HC2.out.2.2.1) rfl ?_; simp only [List.setIfInBounds_toArray, List.set_cons_zero, List.set_cons_succ])
            | (refine pw_quiet (v := .agg c3.toArray) rfl (by rfl) (fun wq hwq => run_load_blk 45 (.tmp 12) rfl r3.heap.size _ c3 rfl (HZ3.out.kp0 hwq) _ Try.underlying45 rfl HC3.out.2.2.1) rfl ?_; simp only [List.setIfInBounds_toArray, List.set_cons_zero, List.set_cons_succ])
            | (refine pw_quiet (v := .agg c5.toArray) rfl (by rfl) (fun wq hwq => run_load_blk 45 (.tmp 14) rfl r4.heap.size _ c5 rfl (HB6.out.kp0 hwq) _ Try.underlying45 rfl HC5.out.2.2.1) rfl ?_; simp only [List.setIfInBounds_toArray, List.set_cons_zero, List.set_cons_succ])
            | (refine pw_quiet (v := .bool (((leB 32 z).map (fun c => (c.toNat : Int))) == ((leB 32 z).map (fun c => (c.toNat : Int))))) rfl (by rfl) (fun wq _ => run_op_eql wq (.tmp 81) (.tmp 83) rfl ((leB 32 z).map (fun c => (c.toNat : Int))) ((leB 32 z).map (fun c => (c.toNat : Int))) (by rw [← bys_map]; rfl) (by rw [← bys_map]; rfl) Try.underlying70 Try.underlying5 (by kernel_rfl) (by kernel_rfl) (by simp [leB_len]) (by simp [leB_len])) rfl ?_; rw [beq_self_eq_true]; simp only [List.setIfInBounds_toArray, List.set_cons_zero, List.set_cons_succ])
            | (refine pw_quiet (v := ?_) rfl (by rfl) (fun wq hwq => ?_) rfl ?_; rotate_left 1; (focus (go_simp; try (with_reducible rfl); done)); simp only [List.setIfInBounds_toArray, List.set_cons_zero, List.set_cons_succ])
            | (refine pw_skip rfl (by rfl) rfl ?_; simp only [List.setIfInBounds_toArray, List.set_cons_zero, List.set_cons_succ])
            | (refine pw_skipE rfl (by rfl) rfl ?_; simp only [List.setIfInBounds_toArray, List.set_cons_zero, List.set_cons_succ]))
          refine pw_eff rfl (by rfl) (fun K hK => ?_)
          go_simp
          refine (HF.out.mul c5 c1 z z _ HC5.out HC1.out).mono ?_
          rintro e x7 ⟨d1, rfl, hc7, hk7⟩
          have Hd1 := Lib.hid hc7
          clear hc7
          simp only []
          have HS7 : Hid (Kp0 v6 x7) := Lib.hid (HS6.out.tr hk7)
          clear hk7
          refine hK (fun w' : World => Kp0 v6 w') _ _ (fun x h => h) HS7.out ?_
          clear hK K
          refine pw_eff rfl (by rfl) (fun K hK => ?_)
          go_simp
          refine (HF.out.mul c5 c2 z z _ HC5.out HC2.out).mono ?_
          rintro e x8 ⟨d2, rfl, hc8, hk8⟩
          have Hd2 := Lib.hid hc8
          clear hc8
          simp only []
          have HS8 : Hid (Kp0 v6 x8) := Lib.hid (HS7.out.tr hk8)
          clear hk8
          refine hK (fun w' : World => Kp0 v6 w') _ _ (fun x h => h) HS8.out ?_
          clear hK K
          refine pw_eff rfl (by rfl) (fun K hK => ?_)
          go_simp
          refine (HF.out.same d1 d2 _ _ _ Hd1.out Hd2.out).mono ?_
          rw [decide_eq_true rfl]
          rintro e x9 ⟨rfl, hk9⟩
          simp only []
          have HS9 : Hid (Kp0 v6 x9) := Lib.hid (HS8.out.tr hk9)
          clear hk9
          refine hK (fun w' : World => Kp0 v6 w') _ _ (fun x h => h) HS9.out ?_
          clear hK K
          repeat (first
            | (refine pw_quiet (v := .agg c1.toArray) rfl (by rfl) (fun wq hwq => run_load_blk 45 (.tmp 8) rfl r1.heap.size _ c1 rfl (HZ1.out.kp0 hwq) _ Try.underlying45 rfl HC1.out.2.2.1) rfl ?_; simp only [List.setIfInBounds_toArray, List.set_cons_zero, List.set_cons_succ])
            | (refine pw_quiet (v := .agg c2.toArray) rfl (by rfl) (fun wq hwq => run_load_blk 45 (.tmp 10) rfl r2.heap.size _ c2 rfl (HZ2.out.kp0 hwq) _ Try.underlying45 rfl HC2.out.2.2.1) rfl ?_; simp only [List.setIfInBounds_toArray, List.set_cons_zero, List.set_cons_succ])
            | (refine pw_quiet (v := .agg c3.toArray) rfl (by rfl) (fun wq hwq => run_load_blk 45 (.tmp 12) rfl r3.heap.size _ c3 rfl (HZ3.out.kp0 hwq) _ Try.underlying45 rfl HC3.out.2.2.1) rfl ?_; simp only [List.setIfInBounds_toArray, List.set_cons_zero, List.set_cons_succ])
            | (refine pw_quiet (v := .agg c5.toArray) rfl (by rfl) (fun wq hwq => run_load_blk 45 (.tmp 14) rfl r4.heap.size _ c5 rfl (HB6.out.kp0 hwq) _ Try.underlying45 rfl HC5.out.2.2.1) rfl ?_; simp only [List.setIfInBounds_toArray, List.set_cons_zero, List.set_cons_succ])
            | (refine pw_quiet (v := .bool (((leB 32 z).map (fun c => (c.toNat : Int))) == ((leB 32 z).map (fun c => (c.toNat : Int))))) rfl (by rfl) (fun wq _ => run_op_eql wq (.tmp 81) (.tmp 83) rfl ((leB 32 z).map (fun c => (c.toNat : Int))) ((leB 32 z).map (fun c => (c.toNat : Int))) (by rw [← bys_map]; rfl) (by rw [← bys_map]; rfl) Try.underlying70 Try.underlying5 (by kernel_rfl) (by kernel_rfl) (by simp [leB_len]) (by simp [leB_len])) rfl ?_; rw [beq_self_eq_true]; simp only [List.setIfInBounds_toArray, List.set_cons_zero, List.set_cons_succ])
            | (refine pw_quiet (v := ?_) rfl (by rfl) (fun wq hwq => ?_) rfl ?_; rotate_left 1; (focus (go_simp; try (with_reducible rfl); done)); simp only [List.setIfInBounds_toArray, List.set_cons_zero, List.set_cons_succ])
            | (refine pw_skip rfl (by rfl) rfl ?_; simp only [List.setIfInBounds_toArray, List.set_cons_zero, List.set_cons_succ])
            | (refine pw_skipE rfl (by rfl) rfl ?_; simp only [List.setIfInBounds_toArray, List.set_cons_zero, List.set_cons_succ]))
          refine pw_eff rfl (by rfl) (fun K hK => ?_)
          go_simp
          refine (HF.out.sub c5 c1 z z _ HC5.out HC1.out).mono ?_
          rintro e x10 ⟨d3, rfl, hc10, hk10⟩
          have Hd3 := Lib.hid hc10
          clear hc10
          simp only []
          have HS10 : Hid (Kp0 v6 x10) := Lib.hid (HS9.out.tr hk10)
          clear hk10
          refine hK (fun w' : World => Kp0 v6 w') _ _ (fun x h => h) HS10.out ?_
          clear hK K
          refine pw_eff rfl (by rfl) (fun K hK => ?_)
          go_simp
          refine (HF.out.sub c5 c3 z z _ HC5.out HC3.out).mono ?_
          rintro e x11 ⟨d4, rfl, hc11, hk11⟩
          have Hd4 := Lib.hid hc11
          clear hc11
          simp only []
          have HS11 : Hid (Kp0 v6 x11) := Lib.hid (HS10.out.tr hk11)
          clear hk11
          refine hK (fun w' : World => Kp0 v6 w') _ _ (fun x h => h) HS11.out ?_
          clear hK K
          refine pw_eff rfl (by rfl) (fun K hK => ?_)
          go_simp
          refine (HF.out.same d3 d4 _ _ _ Hd3.out Hd4.out).mono ?_
          rw [decide_eq_true rfl]
          rintro e x12 ⟨rfl, hk12⟩
          simp only []
          have HS12 : Hid (Kp0 v6 x12) := Lib.hid (HS11.out.tr hk12)
          clear hk12
          refine hK (fun w' : World => Kp0 v6 w') _ _ (fun x h => h) HS12.out ?_
          clear hK K
          repeat (first
            | (refine pw_quiet (v := .agg c1.toArray) rfl (by rfl) (fun wq hwq => run_load_blk 45 (.tmp 8) rfl r1.heap.size _ c1 rfl (HZ1.out.kp0 hwq) _ Try.underlying45 rfl HC1.out.2.2.1) rfl ?_; simp only [List.setIfInBounds_toArray, List.set_cons_zero, List.set_cons_succ])
            | (refine pw_quiet (v := .agg c2.toArray) rfl (by rfl) (fun wq hwq => run_load_blk 45 (.tmp 10) rfl r2.heap.size _ c2 rfl (HZ2.out.kp0 hwq) _ Try.underlying45 rfl HC2.out.2.2.1) rfl ?_; simp only [List.setIfInBounds_toArray, List.set_cons_zero, List.set_cons_succ])
            | (refine pw_quiet (v := .agg c3.toArray) rfl (by rfl) (fun wq hwq => run_load_blk 45 (.tmp 12) rfl r3.heap.size _ c3 rfl (HZ3.out.kp0 hwq) _ Try.underlying45 rfl HC3.out.2.2.1) rfl ?_; simp only [List.setIfInBounds_toArray, List.set_cons_zero, List.set_cons_succ])
            | (refine pw_quiet (v := .agg c5.toArray) rfl (by rfl) (fun wq hwq => run_load_blk 45 (.tmp 14) rfl r4.heap.size _ c5 rfl (HB6.out.kp0 hwq) _ Try.underlying45 rfl HC5.out.2.2.1) rfl ?_; simp only [List.setIfInBounds_toArray, List.set_cons_zero, List.set_cons_succ])
            | (refine pw_quiet (v := .bool (((leB 32 z).map (fun c => (c.toNat : Int))) == ((leB 32 z).map (fun c => (c.toNat : Int))))) rfl (by rfl) (fun wq _ => run_op_eql wq (.tmp 81) (.tmp 83) rfl ((leB 32 z).map (fun c => (c.toNat : Int))) ((leB 32 z).map (fun c => (c.toNat : Int))) (by rw [← bys_map]; rfl) (by rw [← bys_map]; rfl) Try.underlying70 Try.underlying5 (by kernel_rfl) (by kernel_rfl) (by simp [leB_len]) (by simp [leB_len])) rfl ?_; rw [beq_self_eq_true]; simp only [List.setIfInBounds_toArray, List.set_cons_zero, List.set_cons_succ])
            | (refine pw_quiet (v := ?_) rfl (by rfl) (fun wq hwq => ?_) rfl ?_; rotate_left 1; (focus (go_simp; try (with_reducible rfl); done)); simp only [List.setIfInBounds_toArray, List.set_cons_zero, List.set_cons_succ])
            | (refine pw_skip rfl (by rfl) rfl ?_; simp only [List.setIfInBounds_toArray, List.set_cons_zero, List.set_cons_succ])
            | (refine pw_skipE rfl (by rfl) rfl ?_; simp only [List.setIfInBounds_toArray, List.set_cons_zero, List.set_cons_succ]))
          refine pw_eff rfl (by rfl) (fun K hK => ?_)
          go_simp
          try rw [HWZ.out]
          refine (HF.out.small z _ (by omega)).mono ?_
          rintro e x13 ⟨d5, rfl, hc13, hk13⟩
          have Hd5 := Lib.hid hc13
          clear hc13
          simp only []
          have HS13 : Hid (Kp0 v6 x13) := Lib.hid (HS12.out.tr hk13)
          clear hk13
          refine hK (fun w' : World => Kp0 v6 w') _ _ (fun x h => h) HS13.out ?_
          clear hK K
          refine pw_eff rfl (by rfl) (fun K hK => ?_)
          go_simp
          refine (HF.out.same c1 d5 z z _ HC1.out Hd5.out).mono ?_
          rw [decide_eq_true rfl]
          rintro e x14 ⟨rfl, hk14⟩
          simp only []
          have HS14 : Hid (Kp0 v6 x14) := Lib.hid (HS13.out.tr hk14)
          clear hk14
          refine hK (fun w' : World => Kp0 v6 w') _ _ (fun x h => h) HS14.out ?_
          clear hK K
          repeat (first
            | (refine pw_quiet (v := .agg c1.toArray) rfl (by rfl) (fun wq hwq => run_load_blk 45 (.tmp 8) rfl r1.heap.size _ c1 rfl (HZ1.out.kp0 hwq) _ Try.underlying45 rfl HC1.out.2.2.1) rfl ?_; simp only [List.setIfInBounds_toArray, List.set_cons_zero, List.set_cons_succ])
            | (refine pw_quiet (v := .agg c2.toArray) rfl (by rfl) (fun wq hwq => run_load_blk 45 (.tmp 10) rfl r2.heap.size _ c2 rfl (HZ2.out.kp0 hwq) _ Try.underlying45 rfl HC2.out.2.2.1) rfl ?_; simp only [List.setIfInBounds_toArray, List.set_cons_zero, List.set_cons_succ])
            | (refine pw_quiet (v := .agg c3.toArray) rfl (by rfl) (fun wq hwq => run_load_blk 45 (.tmp 12) rfl r3.heap.size _ c3 rfl (HZ3.out.kp0 hwq) _ Try.underlying45 rfl HC3.out.2.2.1) rfl ?_; simp only [List.setIfInBounds_toArray, List.set_cons_zero, List.set_cons_succ])
            | (refine pw_quiet (v := .agg c5.toArray) rfl (by rfl) (fun wq hwq => run_load_blk 45 (.tmp 14) rfl r4.heap.size _ c5 rfl (HB6.out.kp0 hwq) _ Try.underlying45 rfl HC5.out.2.2.1) rfl ?_; simp only [List.setIfInBounds_toArray, List.set_cons_zero, List.set_cons_succ])
            | (refine pw_quiet (v := .bool (((leB 32 z).map (fun c => (c.toNat : Int))) == ((leB 32 z).map (fun c => (c.toNat : Int))))) rfl (by rfl) (fun wq _ => run_op_eql wq (.tmp 81) (.tmp 83) rfl ((leB 32 z).map (fun c => (c.toNat : Int))) ((leB 32 z).map (fun c => (c.toNat : Int))) (by rw [← bys_map]; rfl) (by rw [← bys_map]; rfl) Try.underlying70 Try.underlying5 (by kernel_rfl) (by kernel_rfl) (by simp [leB_len]) (by simp [leB_len])) rfl ?_; rw [beq_self_eq_true]; simp only [List.setIfInBounds_toArray, List.set_cons_zero, List.set_cons_succ])
            | (refine pw_quiet (v := ?_) rfl (by rfl) (fun wq hwq => ?_) rfl ?_; rotate_left 1; (focus (go_simp; try (with_reducible rfl); done)); simp only [List.setIfInBounds_toArray, List.set_cons_zero, List.set_cons_succ])
            | (refine pw_skip rfl (by rfl) rfl ?_; simp only [List.setIfInBounds_toArray, List.set_cons_zero, List.set_cons_succ])
            | (refine pw_skipE rfl (by rfl) rfl ?_; simp only [List.setIfInBounds_toArray, List.set_cons_zero, List.set_cons_succ]))
          refine pw_done ?_
          go_wp2
          all_goals go_ret
          all_goals exact ⟨by simp, HW6.out.tr HS14.out⟩
        · go_upto_region 19 with (
            (refine wl_store_blk rfl 45 (.tmp 14) (.tmp 64) rfl r4.heap.size _ _ c4 rfl rfl (blk0 r4 _ _) HC4.out.2.2.1 (len_of (T := 45) (by kernel_rfl) HC4.out.2.2.1) HC4.out.2.2.2 ?_
             intro v4 hA4 hK4
             have hh : Kp0 v3 v4 := HP4.out.tr (kp_blk hK4 ((Kp.refl _ r4).alloc _) (Nat.le_refl _))
             have HB4 := Lib.hid hA4
             have HY1 := Lib.hid (HX1.out.kp0 hh)
             have HY2 := Lib.hid (HX2.out.kp0 hh)
             have HY3 := Lib.hid (HB3.out.kp0 hh)
             have HW4 : Hid (Kp0 w v4) := Lib.hid ((HK1.out.tr HV3.out.2.2.1).tr hh)
             clear hA4 hK4 hh))
          try simp only [Act.put]
          have HS0 : Hid (Kp0 v4 v4.drew) := Lib.hid ((Kp.refl _ v4).drew)
          refine wp_region_wall [] (fun w' : World => Kp0 v4 w') (.quiet 0 (.quiet 1 (.eff 2 (.quiet 3 (.quiet 4 (.quiet 5 (.eff 6 (.quiet 7 (.quiet 8 (.quiet 9 (.quiet 11 (.eff 10 (.eff 12 (.quiet 13 (.quiet 14 (.quiet 15 (.quiet 16 (.quiet 18 (.eff 17 (.eff 19 (.quiet 20 (.quiet 21 (.quiet 22 (.quiet 23 (.quiet 24 (.quiet 26 (.quiet 27 (.eff 25 (.eff 28 (.eff 29 (.quiet 30 (.quiet 31 (.quiet 32 (.quiet 33 (.quiet 35 (.quiet 36 (.eff 34 (.eff 37 (.eff 38 (.quiet 39 (.quiet 40 (.quiet 41 (.quiet 42 (.quiet 43 (.eff 44 (.eff 45 (.quiet 46 (.quiet 47 .done)))))))))))))))))))))))))))))))))))))))))))))))) (by kernel_rfl) (by kernel_rfl) (by kernel_rfl) (by kernel_rfl) (fun _ d _ _ _ h => by cases d <;> exact h) HS0.out ?_
          repeat (first
            | (refine pw_quiet (v := .agg c1.toArray) rfl (by rfl) (fun wq hwq => run_load_blk 45 (.tmp 8) rfl r1.heap.size _ c1 rfl (HY1.out.kp0 hwq) _ Try.underlying45 rfl HC1.out.2.2.1) rfl ?_; simp only [List.setIfInBounds_toArray, List.set_cons_zero, List.set_cons_succ])
            | (refine pw_quiet (v := .agg c2.toArray) rfl (by rfl) (fun wq hwq => run_load_blk 45 (.tmp 10) rfl r2.heap.size _ c2 rfl (HY2.out.kp0 hwq) _ Try.underlying45 rfl HC2.out.2.2.1) rfl ?_; simp only [List.setIfInBounds_toArray, List.set_cons_zero, List.set_cons_succ])
            | (refine pw_quiet (v := .agg c3.toArray) rfl (by rfl) (fun wq hwq => run_load_blk 45 (.tmp 12) rfl r3.heap.size _ c3 rfl (HY3.out.kp0 hwq) _ Try.underlying45 rfl HC3.out.2.2.1) rfl ?_; simp only [List.setIfInBounds_toArray, List.set_cons_zero, List.set_cons_succ])
            | (refine pw_quiet (v := .agg c4.toArray) rfl (by rfl) (fun wq hwq => run_load_blk 45 (.tmp 14) rfl r4.heap.size _ c4 rfl (HB4.out.kp0 hwq) _ Try.underlying45 rfl HC4.out.2.2.1) rfl ?_; simp only [List.setIfInBounds_toArray, List.set_cons_zero, List.set_cons_succ])
            | (refine pw_quiet (v := .bool (((leB 32 z).map (fun c => (c.toNat : Int))) == ((leB 32 z).map (fun c => (c.toNat : Int))))) rfl (by rfl) (fun wq _ => run_op_eql wq (.tmp 81) (.tmp 83) rfl ((leB 32 z).map (fun c => (c.toNat : Int))) ((leB 32 z).map (fun c => (c.toNat : Int))) (by rw [← bys_map]; rfl) (by rw [← bys_map]; rfl) Try.underlying70 Try.underlying5 (by kernel_rfl) (by kernel_rfl) (by simp [leB_len]) (by simp [leB_len])) rfl ?_; rw [beq_self_eq_true]; simp only [List.setIfInBounds_toArray, List.set_cons_zero, List.set_cons_succ])
            | (refine pw_quiet (v := ?_) rfl (by rfl) (fun wq hwq => ?_) rfl ?_; rotate_left 1; (focus (go_simp; try (with_reducible rfl); done)); simp only [List.setIfInBounds_toArray, List.set_cons_zero, List.set_cons_succ])
            | (refine pw_skip rfl (by rfl) rfl ?_; simp only [List.setIfInBounds_toArray, List.set_cons_zero, List.set_cons_succ])
            | (refine pw_skipE rfl (by rfl) rfl ?_; simp only [List.setIfInBounds_toArray, List.set_cons_zero, List.set_cons_succ]))
          refine pw_eff rfl (by rfl) (fun K hK => ?_)
          go_simp
          refine (HF.out.same c1 c2 z z _ HC1.out HC2.out).mono ?_
          rw [decide_eq_true rfl]
          rintro e x1 ⟨rfl, hk1⟩
          simp only []
          have HS1 : Hid (Kp0 v4 x1) := Lib.hid (HS0.out.tr hk1)
          clear hk1
          refine hK (fun w' : World => Kp0 v4 w') _ _ (fun x h => h) HS1.out ?_
          clear hK K
          repeat (first
            | (refine pw_quiet (v := .agg c1.toArray) rfl (by rfl) (fun wq hwq => run_load_blk 45 (.tmp 8) rfl r1.heap.size _ c1 rfl (HY1.out.kp0 hwq) _ Try.underlying45 rfl HC1.out.2.2.1) rfl ?_; simp only [List.setIfInBounds_toArray, List.set_cons_zero, List.set_cons_succ])
            | (refine pw_quiet (v := .agg c2.toArray) rfl (by rfl) (fun wq hwq => run_load_blk 45 (.tmp 10) rfl r2.heap.size _ c2 rfl (HY2.out.kp0 hwq) _ Try.underlying45 rfl HC2.out.2.2.1) rfl ?_; simp only [List.setIfInBounds_toArray, List.set_cons_zero, List.set_cons_succ])
            | (refine pw_quiet (v := .agg c3.toArray) rfl (by rfl) (fun wq hwq => run_load_blk 45 (.tmp 12) rfl r3.heap.size _ c3 rfl (HY3.out.kp0 hwq) _ Try.underlying45 rfl HC3.out.2.2.1) rfl ?_; simp only [List.setIfInBounds_toArray, List.set_cons_zero, List.set_cons_succ])
            | (refine pw_quiet (v := .agg c4.toArray) rfl (by rfl) (fun wq hwq => run_load_blk 45 (.tmp 14) rfl r4.heap.size _ c4 rfl (HB4.out.kp0 hwq) _ Try.underlying45 rfl HC4.out.2.2.1) rfl ?_; simp only [List.setIfInBounds_toArray, List.set_cons_zero, List.set_cons_succ])
            | (refine pw_quiet (v := .bool (((leB 32 z).map (fun c => (c.toNat : Int))) == ((leB 32 z).map (fun c => (c.toNat : Int))))) rfl (by rfl) (fun wq _ => run_op_eql wq (.tmp 81) (.tmp 83) rfl ((leB 32 z).map (fun c => (c.toNat : Int))) ((leB 32 z).map (fun c => (c.toNat : Int))) (by rw [← bys_map]; rfl) (by rw [← bys_map]; rfl) Try.underlying70 Try.underlying5 (by kernel_rfl) (by kernel_rfl) (by simp [leB_len]) (by simp [leB_len])) rfl ?_; rw [beq_self_eq_true]; simp only [List.setIfInBounds_toArray, List.set_cons_zero, List.set_cons_succ])
            | (refine pw_quiet (v := ?_) rfl (by rfl) (fun wq hwq => ?_) rfl ?_; rotate_left 1; (focus (go_simp; try (with_reducible rfl); done)); simp only [List.setIfInBounds_toArray, List.set_cons_zero, List.set_cons_succ])
            | (refine pw_skip rfl (by rfl) rfl ?_; simp only [List.setIfInBounds_toArray, List.set_cons_zero, List.set_cons_succ])
            | (refine pw_skipE rfl (by rfl) rfl ?_; simp only [List.setIfInBounds_toArray, List.set_cons_zero, List.set_cons_succ]))
          refine pw_eff rfl (by rfl) (fun K hK => ?_)
          go_simp
          refine (HF.out.same c2 c3 z z _ HC2.out HC3.out).mono ?_
          rw [decide_eq_true rfl]
          rintro e x2 ⟨rfl, hk2⟩
          simp only []
          have HS2 : Hid (Kp0 v4 x2) := Lib.hid (HS1.out.tr hk2)
          clear hk2
          refine hK (fun w' : World => Kp0 v4 w') _ _ (fun x h => h) HS2.out ?_
          clear hK K
          repeat (first
            | (refine pw_quiet (v := .agg c1.toArray) rfl (by rfl) (fun wq hwq => run_load_blk 45 (.tmp 8) rfl r1.heap.size _ c1 rfl (HY1.out.kp0 hwq) _ Try.underlying45 rfl HC1.out.2.2.1) rfl ?_; simp only [List.setIfInBounds_toArray, List.set_cons_zero, List.set_cons_succ])
            | (refine pw_quiet (v := .agg c2.toArray) rfl (by rfl) (fun wq hwq => run_load_blk 45 (.tmp 10) rfl r2.heap.size _ c2 rfl (HY2.out.kp0 hwq) _ Try.underlying45 rfl HC2.out.2.2.1) rfl ?_; simp only [List.setIfInBounds_toArray, List.set_cons_zero, List.set_cons_succ])
            | (refine pw_quiet (v := .agg c3.toArray) rfl (by rfl) (fun wq hwq => run_load_blk 45 (.tmp 12) rfl r3.heap.size _ c3 rfl (HY3.out.kp0 hwq) _ Try.underlying45 rfl HC3.out.2.2.1) rfl ?_; simp only [List.setIfInBounds_toArray, List.set_cons_zero, List.set_cons_succ])
            | (refine pw_quiet (v := .agg c4.toArray) rfl (by rfl) (fun wq hwq => run_load_blk 45 (.tmp 14) rfl r4.heap.size _ c4 rfl (HB4.out.kp0 hwq) _ Try.underlying45 rfl HC4.out.2.2.1) rfl ?_; simp only [List.setIfInBounds_toArray, List.set_cons_zero, List.set_cons_succ])
            | (refine pw_quiet (v := .bool (((leB 32 z).map (fun c => (c.toNat : Int))) == ((leB 32 z).map (fun c => (c.toNat : Int))))) rfl (by rfl) (fun wq _ => run_op_eql wq (.tmp 81) (.tmp 83) rfl ((leB 32 z).map (fun c => (c.toNat : Int))) ((leB 32 z).map (fun c => (c.toNat : Int))) (by rw [← bys_map]; rfl) (by rw [← bys_map]; rfl) Try.underlying70 Try.underlying5 (by kernel_rfl) (by kernel_rfl) (by simp [leB_len]) (by simp [leB_len])) rfl ?_; rw [beq_self_eq_true]; simp only [List.setIfInBounds_toArray, List.set_cons_zero, List.set_cons_succ])
            | (refine pw_quiet (v := ?_) rfl (by rfl) (fun wq hwq => ?_) rfl ?_; rotate_left 1; (focus (go_simp; try (with_reducible rfl); done)); simp only [List.setIfInBounds_toArray, List.set_cons_zero, List.set_cons_succ])
            | (refine pw_skip rfl (by rfl) rfl ?_; simp only [List.setIfInBounds_toArray, List.set_cons_zero, List.set_cons_succ])
            | (refine pw_skipE rfl (by rfl) rfl ?_; simp only [List.setIfInBounds_toArray, List.set_cons_zero, List.set_cons_succ]))
          refine pw_eff rfl (by rfl) (fun K hK => ?_)
          go_simp
          refine (HF.out.bytes c1 z _ HC1.out).mono ?_
          rintro e x3 ⟨rfl, hk3⟩
          simp only []
          have HS3 : Hid (Kp0 v4 x3) := Lib.hid (HS2.out.tr hk3)
          clear hk3
          refine hK (fun w' : World => Kp0 v4 w') _ _ (fun x h => h) HS3.out ?_
          clear hK K
          refine pw_eff rfl (by rfl) (fun K hK => ?_)
          go_simp
          refine (HF.out.bytes c2 z _ HC2.out).mono ?_
          rintro e x4 ⟨rfl, hk4⟩
          simp only []
          have HS4 : Hid (Kp0 v4 x4) := Lib.hid (HS3.out.tr hk4)
          clear hk4
          refine hK (fun w' : World => Kp0 v4 w') _ _ (fun x h => h) HS4.out ?_
          clear hK K
          repeat (first
            | (refine pw_quiet (v := .agg c1.toArray) rfl (by rfl) (fun wq hwq => run_load_blk 45 (.tmp 8) rfl r1.heap.size _ c1 rfl (HY1.out.kp0 hwq) _ Try.underlying45 rfl HC1.out.2.2.1) rfl ?_; simp only [List.setIfInBounds_toArray, List.set_cons_zero, List.set_cons_succ])
            | (refine pw_quiet (v := .agg c2.toArray) rfl (by rfl) (fun wq hwq => run_load_blk 45 (.tmp 10) rfl r2.heap.size _ c2 rfl (HY2.out.kp0 hwq) _ Try.underlying45 rfl HC2.out.2.2.1) rfl ?_; simp only [List.setIfInBounds_toArray, List.set_cons_zero, List.set_cons_succ])
            | (refine pw_quiet (v := .agg c3.toArray) rfl (by rfl) (fun wq hwq => run_load_blk 45 (.tmp 12) rfl r3.heap.size _ c3 rfl (HY3.out.kp0 hwq) _ Try.underlying45 rfl HC3.out.2.2.1) rfl ?_; simp only [List.setIfInBounds_toArray, List.set_cons_zero, List.set_cons_succ])
            | (refine pw_quiet (v := .agg c4.toArray) rfl (by rfl) (fun wq hwq => run_load_blk 45 (.tmp 14) rfl r4.heap.size _ c4 rfl (HB4.out.kp0 hwq) _ Try.underlying45 rfl HC4.out.2.2.1) rfl ?_; simp only [List.setIfInBounds_toArray, List.set_cons_zero, List.set_cons_succ])
            | (refine pw_quiet (v := .bool (((leB 32 z).map (fun c => (c.toNat : Int))) == ((leB 32 z).map (fun c => (c.toNat : Int))))) rfl (by rfl) (fun wq _ => run_op_eql wq (.tmp 81) (.tmp 83) rfl ((leB 32 z).map (fun c => (c.toNat : Int))) ((leB 32 z).map (fun c => (c.toNat : Int))) (by rw [← bys_map]; rfl) (by rw [← bys_map]; rfl) Try.underlying70 Try.underlying5 (by kernel_rfl) (by kernel_rfl) (by simp [leB_len]) (by simp [leB_len])) rfl ?_; rw [beq_self_eq_true]; simp only [List.setIfInBounds_toArray, List.set_cons_zero, List.set_cons_succ])
            | (refine pw_quiet (v := ?_) rfl (by rfl) (fun wq hwq => ?_) rfl ?_; rotate_left 1; (focus (go_simp; try (with_reducible rfl); done)); simp only [List.setIfInBounds_toArray, List.set_cons_zero, List.set_cons_succ])
            | (refine pw_skip rfl (by rfl) rfl ?_; simp only [List.setIfInBounds_toArray, List.set_cons_zero, List.set_cons_succ])
            | (refine pw_skipE rfl (by rfl) rfl ?_; simp only [List.setIfInBounds_toArray, List.set_cons_zero, List.set_cons_succ]))
          refine pw_eff rfl (by rfl) (fun K hK => ?_)
          go_simp
          refine (HF.out.odd c1 z _ HC1.out).mono ?_
          rintro e x5 ⟨rfl, hk5⟩
          simp only []
          have HS5 : Hid (Kp0 v4 x5) := Lib.hid (HS4.out.tr hk5)
          clear hk5
          refine hK (fun w' : World => Kp0 v4 w') _ _ (fun x h => h) HS5.out ?_
          clear hK K
          refine pw_eff rfl (by rfl) (fun K hK => ?_)
          go_simp
          refine (HF.out.odd c2 z _ HC2.out).mono ?_
          rintro e x6 ⟨rfl, hk6⟩
          simp only []
          have HS6 : Hid (Kp0 v4 x6) := Lib.hid (HS5.out.tr hk6)
          clear hk6
          refine hK (fun w' : World => Kp0 v4 w') _ _ (fun x h => h) HS6.out ?_
          clear hK K
          repeat (first
            | (refine pw_quiet (v := .agg c1.toArray) rfl (by rfl) (fun wq hwq => run_load_blk 45 (.tmp 8) rfl r1.heap.size _ c1 rfl (HY1.out.kp0 hwq) _ Try.underlying45 rfl HC1.out.2.2.1) rfl ?_; simp only [List.setIfInBounds_toArray, List.set_cons_zero, List.set_cons_succ])
            | (refine pw_quiet (v := .agg c2.toArray) rfl (by rfl) (fun wq hwq => run_load_blk 45 (.tmp 10) rfl r2.heap.size _ c2 rfl (HY2.out.kp0 hwq) _ Try.underlying45 rfl HC2.out.2.2.1) rfl ?_; simp only [List.setIfInBounds_toArray, List.set_cons_zero, List.set_cons_succ])
            | (refine pw_quiet (v := .agg c3.toArray) rfl (by rfl) (fun wq hwq => run_load_blk 45 (.tmp 12) rfl r3.heap.size _ c3 rfl (HY3.out.kp0 hwq) _ Try.underlying45 rfl HC3.out.2.2.1) rfl ?_; simp only [List.setIfInBounds_toArray, List.set_cons_zero, List.set_cons_succ])
            | (refine pw_quiet (v := .agg c4.toArray) rfl (by rfl) (fun wq hwq => run_load_blk 45 (.tmp 14) rfl r4.heap.size _ c4 rfl (HB4.out.kp0 hwq) _ Try.underlying45 rfl HC4.out.2.2.1) rfl ?_; simp only [List.setIfInBounds_toArray, List.set_cons_zero, List.set_cons_succ])
            | (refine pw_quiet (v := .bool (((leB 32 z).map (fun c => (c.toNat : Int))) == ((leB 32 z).map (fun c => (c.toNat : Int))))) rfl (by rfl) (fun wq _ => run_op_eql wq (.tmp 81) (.tmp 83) rfl ((leB 32 z).map (fun c => (c.toNat : Int))) ((leB 32 z).map (fun c => (c.toNat : Int))) (by rw [← bys_map]; rfl) (by rw [← bys_map]; rfl) Try.underlying70 Try.underlying5 (by kernel_rfl) (by kernel_rfl) (by simp [leB_len]) (by simp [leB_len])) rfl ?_; rw [beq_self_eq_true]; simp only [List.setIfInBounds_toArray, List.set_cons_zero, List.set_cons_succ])
            | (refine pw_quiet (v := ?_) rfl (by rfl) (fun wq hwq => ?_) rfl ?_; rotate_left 1; (focus (go_simp; try (with_reducible rfl); done)); simp only [List.setIfInBounds_toArray, List.set_cons_zero, List.set_cons_succ])
            | (refine pw_skip rfl (by rfl) rfl ?_; simp only [List.setIfInBounds_toArray, List.set_cons_zero, List.set_cons_succ])
            | (refine pw_skipE rfl (by rfl) rfl ?_; simp only [List.setIfInBounds_toArray, List.set_cons_zero, List.set_cons_succ]))
          refine pw_eff rfl (by rfl) (fun K hK => ?_)
          go_simp
          refine (HF.out.mul c4 c1 m z _ HC4.out HC1.out).mono ?_
          rintro e x7 ⟨d1, rfl, hc7, hk7⟩
          have Hd1 := Lib.hid hc7
          clear hc7
          simp only []
          have HS7 : Hid (Kp0 v4 x7) := Lib.hid (HS6.out.tr hk7)
          clear hk7
          refine hK (fun w' : World => Kp0 v4 w') _ _ (fun x h => h) HS7.out ?_
          clear hK K
          refine pw_eff rfl (by rfl) (fun K hK => ?_)
          go_simp
          refine (HF.out.mul c4 c2 m z _ HC4.out HC2.out).mono ?_
          rintro e x8 ⟨d2, rfl, hc8, hk8⟩
          have Hd2 := Lib.hid hc8
          clear hc8
          simp only []
          have HS8 : Hid (Kp0 v4 x8) := Lib.hid (HS7.out.tr hk8)
          clear hk8
          refine hK (fun w' : World => Kp0 v4 w') _ _ (fun x h => h) HS8.out ?_
          clear hK K
          refine pw_eff rfl (by rfl) (fun K hK => ?_)
          go_simp
          refine (HF.out.same d1 d2 _ _ _ Hd1.out Hd2.out).mono ?_
          rw [decide_eq_true rfl]
          rintro e x9 ⟨rfl, hk9⟩
          simp only []
          have HS9 : Hid (Kp0 v4 x9) := Lib.hid (HS8.out.tr hk9)
          clear hk9
          refine hK (fun w' : World => Kp0 v4 w') _ _ (fun x h => h) HS9.out ?_
          clear hK K
          repeat (first
            | (refine pw_quiet (v := .agg c1.toArray) rfl (by rfl) (fun wq hwq => run_load_blk 45 (.tmp 8) rfl r1.heap.size _ c1 rfl (HY1.out.kp0 hwq) _ Try.underlying45 rfl HC1.out.2.2.1) rfl ?_; simp only [List.setIfInBounds_toArray, List.set_cons_zero, List.set_cons_succ])
            | (refine pw_quiet (v := .agg c2.toArray) rfl (by rfl) (fun wq hwq => run_load_blk 45 (.tmp 10) rfl r2.heap.size _ c2 rfl (HY2.out.kp0 hwq) _ Try.underlying45 rfl HC2.out.2.2.1) rfl ?_; simp only [List.setIfInBounds_toArray, List.set_cons_zero, List.set_cons_succ])
            | (refine pw_quiet (v := .agg c3.toArray) rfl (by rfl) (fun wq hwq => run_load_blk 45 (.tmp 12) rfl r3.heap.size _ c3 rfl (HY3.out.kp0 hwq) _ Try.underlying45 rfl HC3.out.2.2.1) rfl ?_; simp only [List.setIfInBounds_toArray, List.set_cons_zero, List.set_cons_succ])
            | (refine pw_quiet (v := .agg c4.toArray) rfl (by rfl) (fun wq hwq => run_load_blk 45 (.tmp 14) rfl r4.heap.size _ c4 rfl (HB4.out.kp0 hwq) _ Try.underlying45 rfl HC4.out.2.2.1) rfl ?_; simp only [List.setIfInBounds_toArray, List.set_cons_zero, List.set_cons_succ])
            | (refine pw_quiet (v := .bool (((leB 32 z).map (fun c => (c.toNat : Int))) == ((leB 32 z).map (fun c => (c.toNat : Int))))) rfl (by rfl) (fun wq _ => run_op_eql wq (.tmp 81) (.tmp 83) rfl ((leB 32 z).map (fun c => (c.toNat : Int))) ((leB 32 z).map (fun c => (c.toNat : Int))) (by rw [← bys_map]; rfl) (by rw [← bys_map]; rfl) Try.underlying70 Try.underlying5 (by kernel_rfl) (by kernel_rfl) (by simp [leB_len]) (by simp [leB_len])) rfl ?_; rw [beq_self_eq_true]; simp only [List.setIfInBounds_toArray, List.set_cons_zero, List.set_cons_succ])
            | (refine pw_quiet (v := ?_) rfl (by rfl) (fun wq hwq => ?_) rfl ?_; rotate_left 1; (focus (go_simp; try (with_reducible rfl); done)); simp only [List.setIfInBounds_toArray, List.set_cons_zero, List.set_cons_succ])
            | (refine pw_skip rfl (by rfl) rfl ?_; simp only [List.setIfInBounds_toArray, List.set_cons_zero, List.set_cons_succ])
            | (refine pw_skipE rfl (by rfl) rfl ?_; simp only [List.setIfInBounds_toArray, List.set_cons_zero, List.set_cons_succ]))
          refine pw_eff rfl (by rfl) (fun K hK => ?_)
          go_simp
          refine (HF.out.sub c4 c1 m z _ HC4.out HC1.out).mono ?_
          rintro e x10 ⟨d3, rfl, hc10, hk10⟩
          have Hd3 := Lib.hid hc10
          clear hc10
          simp only []
          have HS10 : Hid (Kp0 v4 x10) := Lib.hid (HS9.out.tr hk10)
          clear hk10
          refine hK (fun w' : World => Kp0 v4 w') _ _ (fun x h => h) HS10.out ?_
          clear hK K
          refine pw_eff rfl (by rfl) (fun K hK => ?_)
          go_simp
          refine (HF.out.sub c4 c3 m z _ HC4.out HC3.out).mono ?_
          rintro e x11 ⟨d4, rfl, hc11, hk11⟩
          have Hd4 := Lib.hid hc11
          clear hc11
          simp only []
          have HS11 : Hid (Kp0 v4 x11) := Lib.hid (HS10.out.tr hk11)
          clear hk11
          refine hK (fun w' : World => Kp0 v4 w') _ _ (fun x h => h) HS11.out ?_
          clear hK K
          refine pw_eff rfl (by rfl) (fun K hK => ?_)
          go_simp
          refine (HF.out.same d3 d4 _ _ _ Hd3.out Hd4.out).mono ?_
          rw [decide_eq_true rfl]
          rintro e x12 ⟨rfl, hk12⟩
          simp only []
          have HS12 : Hid (Kp0 v4 x12) := Lib.hid (HS11.out.tr hk12)
          clear hk12
          refine hK (fun w' : World => Kp0 v4 w') _ _ (fun x h => h) HS12.out ?_
          clear hK K
          repeat (first
            | (refine pw_quiet (v := .agg c1.toArray) rfl (by rfl) (fun wq hwq => run_load_blk 45 (.tmp 8) rfl r1.heap.size _ c1 rfl (HY1.out.kp0 hwq) _ Try.underlying45 rfl HC1.out.2.2.1) rfl ?_; simp only [List.setIfInBounds_toArray, List.set_cons_zero, List.set_cons_succ])
            | (refine pw_quiet (v := .agg c2.toArray) rfl (by rfl) (fun wq hwq => run_load_blk 45 (.tmp 10) rfl r2.heap.size _ c2 rfl (HY2.out.kp0 hwq) _ Try.underlying45 rfl HC2.out.2.2.1) rfl ?_; simp only [List.setIfInBounds_toArray, List.set_cons_zero, List.set_cons_succ])
            | (refine pw_quiet (v := .agg c3.toArray) rfl (by rfl) (fun wq hwq => run_load_blk 45 (.tmp 12) rfl r3.heap.size _ c3 rfl (HY3.out.kp0 hwq) _ Try.underlying45 rfl HC3.out.2.2.1) rfl ?_; simp only [List.setIfInBounds_toArray, List.set_cons_zero, List.set_cons_succ])
            | (refine pw_quiet (v := .agg c4.toArray) rfl (by rfl) (fun wq hwq => run_load_blk 45 (.tmp 14) rfl r4.heap.size _ c4 rfl (HB4.out.kp0 hwq) _ Try.underlying45 rfl HC4.out.2.2.1) rfl ?_; simp only [List.setIfInBounds_toArray, List.set_cons_zero, List.set_cons_succ])
            | (refine pw_quiet (v := .bool (((leB 32 z).map (fun c => (c.toNat : Int))) == ((leB 32 z).map (fun c => (c.toNat : Int))))) rfl (by rfl) (fun wq _ => run_op_eql wq (.tmp 81) (.tmp 83) rfl ((leB 32 z).map (fun c => (c.toNat : Int))) ((leB 32 z).map (fun c => (c.toNat : Int))) (by rw [← bys_map]; rfl) (by rw [← bys_map]; rfl) Try.underlying70 Try.underlying5 (by kernel_rfl) (by kernel_rfl) (by simp [leB_len]) (by simp [leB_len])) rfl ?_; rw [beq_self_eq_true]; simp only [List.setIfInBounds_toArray, List.set_cons_zero, List.set_cons_succ])
            | (refine pw_quiet (v := ?_) rfl (by rfl) (fun wq hwq => ?_) rfl ?_; rotate_left 1; (focus (go_simp; try (with_reducible rfl); done)); simp only [List.setIfInBounds_toArray, List.set_cons_zero, List.set_cons_succ])
            | (refine pw_skip rfl (by rfl) rfl ?_; simp only [List.setIfInBounds_toArray, List.set_cons_zero, List.set_cons_succ])
            | (refine pw_skipE rfl (by rfl) rfl ?_; simp only [List.setIfInBounds_toArray, List.set_cons_zero, List.set_cons_succ]))
          refine pw_eff rfl (by rfl) (fun K hK => ?_)
          go_simp
          try rw [HWZ.out]
          refine (HF.out.small z _ (by omega)).mono ?_
          rintro e x13 ⟨d5, rfl, hc13, hk13⟩
          have Hd5 := Lib.hid hc13
          clear hc13
          simp only []
          have HS13 : Hid (Kp0 v4 x13) := Lib.hid (HS12.out.tr hk13)
          clear hk13
          refine hK (fun w' : World => Kp0 v4 w') _ _ (fun x h => h) HS13.out ?_
          clear hK K
          refine pw_eff rfl (by rfl) (fun K hK => ?_)
          go_simp
          refine (HF.out.same c1 d5 z z _ HC1.out Hd5.out).mono ?_
          rw [decide_eq_true rfl]
          rintro e x14 ⟨rfl, hk14⟩
          simp only []
          have HS14 : Hid (Kp0 v4 x14) := Lib.hid (HS13.out.tr hk14)
          clear hk14
          refine hK (fun w' : World => Kp0 v4 w') _ _ (fun x h => h) HS14.out ?_
          clear hK K
          repeat (first
            | (refine pw_quiet (v := .agg c1.toArray) rfl (by rfl) (fun wq hwq => run_load_blk 45 (.tmp 8) rfl r1.heap.size _ c1 rfl (HY1.out.kp0 hwq) _ Try.underlying45 rfl HC1.out.2.2.1) rfl ?_; simp only [List.setIfInBounds_toArray, List.set_cons_zero, List.set_cons_succ])
            | (refine pw_quiet (v := .agg c2.toArray) rfl (by rfl) (fun wq hwq => run_load_blk 45 (.tmp 10) rfl r2.heap.size _ c2 rfl (HY2.out.kp0 hwq) _ Try.underlying45 rfl HC2.out.2.2.1) rfl ?_; simp only [List.setIfInBounds_toArray, List.set_cons_zero, List.set_cons_succ])
            | (refine pw_quiet (v := .agg c3.toArray) rfl (by rfl) (fun wq hwq => run_load_blk 45 (.tmp 12) rfl r3.heap.size _ c3 rfl (HY3.out.kp0 hwq) _ Try.underlying45 rfl HC3.out.2.2.1) rfl ?_; simp only [List.setIfInBounds_toArray, List.set_cons_zero, List.set_cons_succ])
            | (refine pw_quiet (v := .agg c4.toArray) rfl (by rfl) (fun wq hwq => run_load_blk 45 (.tmp 14) rfl r4.heap.size _ c4 rfl (HB4.out.kp0 hwq) _ Try.underlying45 rfl HC4.out.2.2.1) rfl ?_; simp only [List.setIfInBounds_toArray, List.set_cons_zero, List.set_cons_succ])
            | (refine pw_quiet (v := .bool (((leB 32 z).map (fun c => (c.toNat : Int))) == ((leB 32 z).map (fun c => (c.toNat : Int))))) rfl (by rfl) (fun wq _ => run_op_eql wq (.tmp 81) (.tmp 83) rfl ((leB 32 z).map (fun c => (c.toNat : Int))) ((leB 32 z).map (fun c => (c.toNat : Int))) (by rw [← bys_map]; rfl) (by rw [← bys_map]; rfl) Try.underlying70 Try.underlying5 (by kernel_rfl) (by kernel_rfl) (by simp [leB_len]) (by simp [leB_len])) rfl ?_; rw [beq_self_eq_true]; simp only [List.setIfInBounds_toArray, List.set_cons_zero, List.set_cons_succ])
            | (refine pw_quiet (v := ?_) rfl (by rfl) (fun wq hwq => ?_) rfl ?_; rotate_left 1; (focus (go_simp; try (with_reducible rfl); done)); simp only [List.setIfInBounds_toArray, List.set_cons_zero, List.set_cons_succ])
            | (refine pw_skip rfl (by rfl) rfl ?_; simp only [List.setIfInBounds_toArray, List.set_cons_zero, List.set_cons_succ])
            | (refine pw_skipE rfl (by rfl) rfl ?_; simp only [List.setIfInBounds_toArray, List.set_cons_zero, List.set_cons_succ]))
          refine pw_done ?_
          go_wp2
          all_goals go_ret
          all_goals exact ⟨by simp, HW4.out.tr HS14.out⟩
end Go.Proofs.Ytjfphmmhikamaaa
