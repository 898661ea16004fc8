/- The law WireInts: its walk. -/
import Derived.Test.YtigghfbochemgaaFit
import Derived.Test.YtigghfbochemgaaReg
import Derived.Deep.RegionLaw
import Derived.Deep.DeepCutAuto
import Derived.Deep.CutBlock
namespace Go.Proofs.Ytigghfbochemgaa
open Go Go.RowKit

def R6 (l : List UInt8) (w : World) (v5 v6 : Value) (wx : World) : Prop := Own w.heap.size 5 wx v5 (bys (encInt l)) ∧ Own w.heap.size 5 wx v6 (bys (encInt l)) ∧ Kp0 w wx

theorem bys_zeros (z : Nat) (l : List UInt8) : bys (List.replicate z 0 ++ l) = List.replicate z (Value.int .u8 0) ++ bys l := by
  rw [bys_app]; congr 1; simp [bys]
theorem r6_a {l : List UInt8} {w wi wx wj : World} {vi vj : Value} {o : Obj} {n cap : Nat} (hki : Kp0 w.drew wi) (hoi : Own w.drew.heap.size 5 wi vi (bys ([] ++ encInt l))) (hgx : (wi.alloc o).grownBy wx (Value.slice (some ⟨wi.heap.size, 0, none⟩) n cap).ownBlock)
    (hoj : Own wx.heap.size 5 wj vj (bys ([] ++ encInt l))) (hkj : Kp0 wx wj) : R6 l w vi vj wj := by
  rw [List.nil_append] at hoi hoj
  have k1 : Kp (fun k => wi.heap.size ≤ k) wi wx := (((Kp.refl (fun k => wi.heap.size ≤ k) wi).alloc o)).grown hgx (by simp [Value.ownBlock])
  have k2 : Kp0 wi wx := k1.mono (fun i hi (h : wi.heap.size ≤ i) => by omega)
  have s1 := hki.size
  have s2 := k2.size
  refine ⟨(hoi.keep0 (k2.tr hkj)).base (Nat.le_refl _), hoj.base (Nat.le_trans s1 s2), ?_⟩
  exact (((Kp.refl _ w).drew.tr hki).tr k2).tr hkj
theorem r6_b {l : List UInt8} {w wi wx wj : World} {vi vj : Value} {o : Obj} {n cap : Nat} (hki : Kp0 (w.drew.alloc o) wi) (hoi : Own (w.drew.alloc o).heap.size 5 wi vi (bys ([] ++ encInt l))) (hgx : wi.grownBy wx (Value.slice (some ⟨w.heap.size, 0, none⟩) n cap).ownBlock)
    (hoj : Own wx.heap.size 5 wj vj (bys ([] ++ encInt l))) (hkj : Kp0 wx wj) : R6 l w vi vj wj := by
  rw [List.nil_append] at hoi hoj
  have k1 : Kp (fun k => k = w.heap.size) wi wx := (Kp.refl (fun k => k = w.heap.size) wi).grown hgx (by simp [Value.ownBlock])
  have s1 := hki.size
  have s2 := k1.size
  simp at s1
  have o2 : Own w.heap.size 5 wx vi (bys (encInt l)) := (hoi.keep k1 (fun b hb h1 h2 (h3 : b = w.heap.size) => by simp at h1; omega)).base (by simp)
  refine ⟨o2.keep0 hkj, hoj.base (by omega), ?_⟩
  have k0 : Kp0 w wi := ((Kp.refl _ w).drew.alloc o).tr hki
  exact (k0.trans k1 (fun _ _ h => h) (fun i hi (h : i = w.heap.size) => by omega)).tr hkj

theorem str59 {l : List UInt8} {B : Nat} (w4 : World) (v : Value) (s5 : ByteArray) (hI : encInt (stripZ l) = encInt l) (hS : s5 = ⟨(encInt l).toArray⟩) (ho : Own B 5 w4 v (bys ([] ++ encInt (stripZ l)))) :
    ∀ w, Kp0 w4 w → (convert 22 9 v).run Try.prog w = .ok (.string s5) w := fun w hw => by
  rw [List.nil_append, hI] at ho
  rw [hS]
  exact run_string_of (P := Try.prog) 22 5 9 Try.underlying22 Try.underlying5 Try.underlying9 (ho.rd.keep0 hw)
set_option maxHeartbeats 1000000 in
theorem ints_walk (v : Value) (l : List UInt8) (k : Int) (w : World) (hv : Rd w v (bys l)) :
    Calls Try.prog 4 #[v, .int .i64 k] w fun e w' => e = .returned (.bool true) ∧ Kp0 w w' := by
  have HV := Lib.hid hv
  obtain ⟨ao, cap, rfl, hc1, hc2, hc3⟩ := hv.shapeB
  clear hv
  have m1 : -8 ≤ k.tmod 9 := by have := Int.lt_tmod_of_pos k (show (0 : Int) < 9 by decide); omega
  have m2 : k.tmod 9 ≤ 8 := by have := Int.tmod_lt_of_pos k (show (0 : Int) < 9 by decide); omega
  obtain ⟨z, hz⟩ : ∃ z : Nat, (k.tmod 9 + 9) % 9 = (z : Int) := ⟨((k.tmod 9 + 9) % 9).toNat, by omega⟩
  have hz9 : z ≤ 8 := by omega
  have HZ := Lib.hid hz
  clear hz
  have hmk : ∀ u : World, (Instr.makeSlice 22 (.int .i64 (z : Int)) (.int .i64 (z : Int))).run Try.prog u =
      .ok (.slice (some ⟨u.heap.size, 0, none⟩) z z) (u.alloc (.cells (madeCells #[.int .u8 0] z) 5)) := fun u => by
    obtain ⟨i0, hi, hz0, hz1, hz2⟩ := info_parts infoU8
    have h := run_make (P := Try.prog) u 22 5 i0 (.int .u8 0) Try.underlying22 hi hz0 .i64 .i64 (z : Int) (z : Int) (by omega) (Int.le_refl _) (by rw [hz2]; omega) (by omega)
    have e : (z : Int).toNat = z := by omega
    rw [e] at h
    simpa [hz1, Value.cells] using h
  go_enter Try.func4, Try.ntmps4
  go_wp2_with fail
  refine (fit_any _).mono ?_
  rintro e w1 ⟨rfl, hk1⟩
  have HV1 := Lib.hid (HV.out.keep0 hk1)
  by_cases hl : l.length ≤ 500
  · go_wp2_with fail
    go_upto_region 6 with (fail)
    rw [HZ.out]
    go_cut [5, 6] (fun v5 v6 wx => R6 l w1 v5 v6 wx)
    case first =>
      go_region_law (first
        | (refine step_append_any rfl (.tmp 21) (.tmp 22) 22 rfl Try.underlying22 infoU8 rfl rfl rfl (by first | exact Own.made wi _ _ _ (by omega) | exact (Own.made w1.drew _ _ _ (by omega)).keep0 hki) (by first | exact (HV1.out.drew.keep0 hki).alloc _ | exact (HV1.out.drew.alloc _).keep0 hki) (bys_one _) (by rw [bys_len, List.length_replicate]; unfold maxLen; omega) (by rw [bys_len, List.length_replicate]; omega) (by first | (simp; done) | (have := hki.size; simp at this ⊢; omega)) ?_; intro vx wx hox hgx)
        | (go_simp; go_at_call_of 8 (Value.slice ao l.length cap); refine (int_any _ _ [] l _ (Rd.nil _) (by first | exact HV1.out.drew | exact HV1.out.drew.alloc _) (by simp; omega)).mono ?_; rintro e wi ⟨vi, rfl, hoi, hki⟩)
        | (go_simp; go_at_call 8; refine (int_any _ _ [] (List.replicate z 0 ++ l) _ (Rd.nil _) (by rw [bys_zeros]; exact hox.rd) (by simp; omega)).mono ?_; rintro e wj ⟨vj, rfl, hoj, hkj⟩))
      all_goals
        go_simp
        go_wp2
        go_meet
        rw [show encInt (List.replicate z 0 ++ l) = encInt l by unfold encInt; rw [stripZ_zeros]] at hoj
        first | exact r6_a hki hoi hgx hoj hkj | exact r6_b hki hoi hgx hoj hkj
    case rest =>
      obtain ⟨ho5, ho6, hk6⟩ := hcut
      have s6 := hk6.size
      go_wp2_with fail
      refine (from_any _ (encInt l) _ ho5.rd).mono ?_
      rintro e w2 ⟨b, rfl, hb, hr, hk2⟩
      have R5 := ho5.rd.keep0 hk2
      have R6' := ho6.rd.keep0 hk2
      have b5 := ho5.lt
      have b6 := ho6.lt
      have H5 := Lib.hid R5
      have H6 := Lib.hid R6'
      have B5 := Lib.hid b5
      have B6 := Lib.hid b6
      have HR := Lib.hid hr
      clear ho5 ho6 R5 R6' hr b5 b6
      go_wp2_with fail
      refine (int_rs b _ _ HR.out).mono ?_
      have ei := intS_enc l [] (by omega)
      rw [List.append_nil] at ei
      rw [ei]
      rintro e w3 ⟨v8, rfl, hd, hr3, hk3, hg3⟩
      have R5 := H5.out.keep hk3 (fun k h1 h2 (h3 : k = b) => by have := (B5.out k h1).2; omega)
      have R6' := H6.out.keep hk3 (fun k h1 h2 (h3 : k = b) => by have := (B6.out k h1).2; omega)
      have hcv5 : ∀ w, Kp0 w3 w → (convert 22 9 u5).run Try.prog w = .ok (.string ⟨(encInt l).toArray⟩) w := fun w hw => run_string_of (P := Try.prog) 22 5 9 Try.underlying22 Try.underlying5 Try.underlying9 (R5.keep0 hw)
      have hcv6 : ∀ w, Kp0 w3 w → (convert 22 9 u6).run Try.prog w = .ok (.string ⟨(encInt l).toArray⟩) w := fun w hw => run_string_of (P := Try.prog) 22 5 9 Try.underlying22 Try.underlying5 Try.underlying9 (R6'.keep0 hw)
      have HR3 := Lib.hid hr3
      have HR5 := Lib.hid R5
      have HD := Lib.hid hd
      have HI : Hid (encInt (stripZ l) = encInt l) := Lib.hid (by unfold encInt; rw [stripZ_idem])
      have HL := Lib.hid (stripZ_len l)
      obtain ⟨a5, c5, rfl, _, _, _⟩ := R5.shapeB
      have hn5 : (encInt l).length ≤ 5 + l.length := by
        have := stripZ_len l
        unfold encInt encText
        rw [List.length_append, be4_len]
        unfold signed
        split
        · rw [List.length_cons]; omega
        · omega
      obtain ⟨s5, hs5⟩ : ∃ s5 : ByteArray, s5 = ⟨(encInt l).toArray⟩ := ⟨_, rfl⟩
      rw [← hs5] at hcv5 hcv6
      have HS5 := Lib.hid hs5
      have hkf : Kp0 w w3 := by
        have s2 := hk2.size
        have s1 := hk1.size
        exact ((hk1.tr hk6).tr hk2).trans hk3 (fun _ _ h => h) (fun i hi (h : i = b) => by omega)
      have HKF := Lib.hid hkf
      clear hs5 hkf hr3 hk1 hk2 hk3 hk6 R6'
      have HD0 := Lib.hid hd
      have hdec : ((encInt l).length : Int) ≤ 5 + (l.length : Int) := by omega
      rcases stripZ_head l with h0 | ⟨c, t, h0, hc⟩
      · rw [h0] at hd
        obtain ⟨a8, c8, rfl, _, _, _⟩ := hd.shapeB
        clear hd h0 R5
        clear ei hg3 hmk m1 m2
        have hw5 : IntKind.i64.wrap (5 + (l.length : Int)) = 5 + (l.length : Int) := IntWalk.i64_in _ (by omega)
        have HB1 := Lib.hid (show (stripZ l).length ≤ 500 by have := HL.out; omega)
        go_wp2_with fail
        refine wp_region_plan (fun w => Kp0 w3 w) [(0, true), (1, true), (2, true), (3, true), (4, true), (5, true), (6, true), (7, false), (8, true), (9, true), (10, true), (11, true), (12, true), (13, true), (14, true), (15, true), (16, true), (17, true), (18, true), (19, true), (20, true), (21, true), (22, true), (23, true), (24, true), (25, true), (26, true), (27, true), (28, true), (29, true), (32, true), (33, true), (30, false), (31, false), (34, true), (35, true), (36, true)] (by kernel_rfl) (by kernel_rfl) (by kernel_rfl) (by kernel_rfl) (fun _ d _ _ _ h => by cases d <;> exact h) (Kp.refl _ _).drew ?_
        simp only [List.map_cons, List.map_nil, List.getElem?_toArray, List.getElem?_cons_zero, List.getElem?_cons_succ, Option.getD_some]
        iterate 7 (first
          | (refine plan_quiet (v := ?_) (by rfl) (fun wq hwq => ?_) ?_; rotate_left 1; (focus (go_simp; try (with_reducible rfl); done)); simp only [Act.put, List.setIfInBounds_toArray, List.set_cons_zero, List.set_cons_succ])
          | (refine plan_skip (by rfl) ?_; simp only [Act.put, List.setIfInBounds_toArray, List.set_cons_zero, List.set_cons_succ]))
        refine plan_eff (by rfl) (fun K hK => ?_)
        go_simp
        refine (end_rs b _ w3.drew HR3.out).mono ?_
        rintro e wE ⟨rfl, rfl⟩
        simp only []
        refine hK _ _ ((Kp.refl _ _).drew) ?_
        clear hK K
        repeat (first
          | (refine plan_quiet (v := ?_) (by rfl) (fun wq hwq => ?_) ?_; rotate_left 1; (focus (go_simp; try (with_reducible rfl); done)); simp only [Act.put, List.setIfInBounds_toArray, List.set_cons_zero, List.set_cons_succ])
          | (refine plan_skip (by rfl) ?_; simp only [Act.put, List.setIfInBounds_toArray, List.set_cons_zero, List.set_cons_succ]))
        refine plan_eff (by rfl) (fun K hK => ?_)
        go_simp
        refine (int_any _ _ [] (stripZ l) w3.drew (Rd.nil _) HD0.out.drew (by have := HB1.out; simp; omega)).mono ?_
        rintro e w4 ⟨v59, rfl, ho59, hk4⟩
        have hcv59 := str59 w4 v59 s5 HI.out HS5.out ho59 w4 (Kp.refl _ _)
        simp only []
        refine hK _ _ ((Kp.refl (fun _ => False) w3).drew.tr hk4) ?_
        clear hK K
        refine plan_eff (by rfl) (fun K hK => ?_)
        go_simp
        refine hK _ _ ((Kp.refl (fun _ => False) w3).drew.tr hk4) ?_
        clear hK K
        repeat (first
          | (refine plan_quiet (v := ?_) (by rfl) (fun wq hwq => ?_) ?_; rotate_left 1; (focus (go_simp; try (with_reducible rfl); done)); simp only [Act.put, List.setIfInBounds_toArray, List.set_cons_zero, List.set_cons_succ])
          | (refine plan_skip (by rfl) ?_; simp only [Act.put, List.setIfInBounds_toArray, List.set_cons_zero, List.set_cons_succ]))
        refine plan_nil ?_
        go_wp2
        go_ret
        exact ⟨rfl, HKF.out.drew.tr hk4⟩
      · rw [h0] at hd
        obtain ⟨g8, o8, c8, rfl, _, _, hcell⟩ := hd.posB (by simp)
        have hl0 := hcell 0 (by simp)
        have hld : ∀ w, Kp0 w3 w → w.cell? ⟨g8, o8, none⟩ = some (.int .u8 (c.toNat : Int)) := fun w hw => by
          have := hw.cell hl0 (fun h => h)
          simpa using this
        have hnz : ((c.toNat : Int) != 0) = true := by
          rw [bne_iff_ne]; intro e; exact hc (UInt8.toNat_inj.1 (by simpa using e))
        obtain ⟨n8, hn8⟩ : ∃ n8, n8 = (c :: t).length := ⟨_, rfl⟩
        have hn0 : (0 : Int) < (n8 : Int) := by rw [hn8]; simp
        have hn1 : 0 < n8 := by omega
        have hnb : ((n8 : Int) == 0) = false := by rw [beq_eq_false_iff_ne]; omega
        rw [← hn8] at HD HD0 hd
        rw [← hn8]
        clear hn8 hl0 hcell hc
        clear hd h0 R5
        clear ei hg3 hmk m1 m2
        have hw5 : IntKind.i64.wrap (5 + (l.length : Int)) = 5 + (l.length : Int) := IntWalk.i64_in _ (by omega)
        have HB1 := Lib.hid (show (stripZ l).length ≤ 500 by have := HL.out; omega)
        go_wp2_with fail
        refine wp_region_plan (fun w => Kp0 w3 w) [(0, true), (1, true), (2, true), (3, true), (4, true), (5, true), (6, true), (7, false), (8, true), (9, true), (10, true), (11, true), (12, true), (13, true), (14, true), (15, true), (16, true), (17, true), (18, true), (19, true), (20, true), (21, true), (22, true), (23, true), (24, true), (25, true), (26, true), (27, true), (28, true), (29, true), (32, true), (33, true), (30, false), (31, false), (34, true), (35, true), (36, true)] (by kernel_rfl) (by kernel_rfl) (by kernel_rfl) (by kernel_rfl) (fun _ d _ _ _ h => by cases d <;> exact h) (Kp.refl _ _).drew ?_
        simp only [List.map_cons, List.map_nil, List.getElem?_toArray, List.getElem?_cons_zero, List.getElem?_cons_succ, Option.getD_some]
        iterate 7 (first
          | (refine plan_quiet (v := ?_) (by rfl) (fun wq hwq => ?_) ?_; rotate_left 1; (focus (go_simp; try (with_reducible rfl); done)); simp only [Act.put, List.setIfInBounds_toArray, List.set_cons_zero, List.set_cons_succ])
          | (refine plan_skip (by rfl) ?_; simp only [Act.put, List.setIfInBounds_toArray, List.set_cons_zero, List.set_cons_succ]))
        refine plan_eff (by rfl) (fun K hK => ?_)
        go_simp
        refine (end_rs b _ w3.drew HR3.out).mono ?_
        rintro e wE ⟨rfl, rfl⟩
        simp only []
        refine hK _ _ ((Kp.refl _ _).drew) ?_
        clear hK K
        repeat (first
          | (refine plan_quiet (v := ?_) (by rfl) (fun wq hwq => ?_) ?_; rotate_left 1; (focus (go_simp; try (with_reducible rfl); done)); simp only [Act.put, List.setIfInBounds_toArray, List.set_cons_zero, List.set_cons_succ])
          | (refine plan_skip (by rfl) ?_; simp only [Act.put, List.setIfInBounds_toArray, List.set_cons_zero, List.set_cons_succ]))
        refine plan_eff (by rfl) (fun K hK => ?_)
        go_simp
        refine (int_any _ _ [] (stripZ l) w3.drew (Rd.nil _) HD0.out.drew (by have := HB1.out; simp; omega)).mono ?_
        rintro e w4 ⟨v59, rfl, ho59, hk4⟩
        have hcv59 := str59 w4 v59 s5 HI.out HS5.out ho59 w4 (Kp.refl _ _)
        simp only []
        refine hK _ _ ((Kp.refl (fun _ => False) w3).drew.tr hk4) ?_
        clear hK K
        refine plan_eff (by rfl) (fun K hK => ?_)
        go_simp
        refine hK _ _ ((Kp.refl (fun _ => False) w3).drew.tr hk4) ?_
        clear hK K
        repeat (first
          | (refine plan_quiet (v := ?_) (by rfl) (fun wq hwq => ?_) ?_; rotate_left 1; (focus (go_simp; try (with_reducible rfl); done)); simp only [Act.put, List.setIfInBounds_toArray, List.set_cons_zero, List.set_cons_succ])
          | (refine plan_skip (by rfl) ?_; simp only [Act.put, List.setIfInBounds_toArray, List.set_cons_zero, List.set_cons_succ]))
        refine plan_nil ?_
        go_wp2
        go_ret
        exact ⟨rfl, HKF.out.drew.tr hk4⟩
  · go_wp2
    go_ret
    exact ⟨rfl, hk1⟩
end Go.Proofs.Ytigghfbochemgaa
