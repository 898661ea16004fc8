/- The law WireNone: its walk. -/
import Derived.Test.YtigghfbochemgaaDoorFit
import Derived.Test.YtigghfbochemgaaDoorNil
import Derived.Test.YtigghfbochemgaaDoorReg
import Derived.Deep.DeepCutAuto
namespace Go.Proofs.YtigghfbochemgaaDoor
open Go Go.RowKit

theorem beforeB {w : World} {ao : Option Addr} {n cap : Nat} {l : List UInt8} (h : Rd w (.slice ao n cap) (bys l)) (k : Nat) (hk : k ≤ l.length) : Rd w (.slice ao k cap) (bys (l.take k)) := by
  obtain ⟨a, c, e, h1, h2, h3, h4⟩ := h
  simp only [Value.slice.injEq] at e
  obtain ⟨rfl, rfl, rfl⟩ := e
  have hl : (bys l).length = l.length := by simp [bys]
  have hl2 : (bys (l.take k)).length = k := by simp [bys]; omega
  refine ⟨ao, cap, by rw [hl2], by omega, h2, h3, fun ad e i u hu => h4 ad e i u ?_⟩
  have hi : i < k := by
    have := (List.getElem?_eq_some_iff.1 hu).1
    omega
  have e2 : bys (l.take k) = (bys l).take k := by simp [bys, List.map_take]
  rw [e2, List.getElem?_take_of_lt hi] at hu
  exact hu

set_option maxHeartbeats 4000000 in
theorem none_walk (v : Value) (lb : List UInt8) (n : Int) (w : World) (hv : Rd w v (bys lb)) (hlb : lb.length ≤ 140737488351232) :
    Calls Tryd.prog 5 #[v, .int .i64 n] w fun e w' => e = .returned (.bool true) ∧ Kp0 w w' := by
  have HV := Lib.hid hv
  obtain ⟨ao, cap, rfl, hc1, hc2, hc3⟩ := hv.shapeB
  clear hv
  go_enter Tryd.func5, Tryd.ntmps5
  go_wp2_with fail
  refine (fit_any _).mono ?_
  rintro e w1 ⟨rfl, hk1⟩
  have HV1 := Lib.hid (HV.out.keep0 hk1)
  have HK1 := Lib.hid hk1
  clear hk1
  by_cases hbig : 3000 < lb.length
  · go_wp2
    all_goals go_ret
    all_goals exact ⟨rfl, HK1.out⟩
  · go_wp2_with fail
    refine (byte_nil _).mono ?_
    rintro e w' ⟨rfl, rfl⟩
    go_wp2_with fail
    refine (flag_nil _).mono ?_
    rintro e w' ⟨rfl, rfl⟩
    go_wp2_with fail
    refine (u32_nil _).mono ?_
    rintro e w' ⟨rfl, rfl⟩
    go_wp2_with fail
    refine (text_nil _).mono ?_
    rintro e w' ⟨rfl, rfl⟩
    go_wp2_with fail
    refine (bytes_nil n _).mono ?_
    rintro e w2 ⟨⟨v2, rfl, a2, c2, rfl⟩, hk2⟩
    have HK2 := Lib.hid (HK1.out.tr hk2)
    clear hk2
    go_wp2_with fail
    refine (names_nil _).mono ?_
    rintro e w' ⟨rfl, rfl⟩
    go_wp2_with fail
    refine (int_nil _).mono ?_
    rintro e w3 ⟨⟨v3, rfl, a3, c3, rfl⟩, hk3⟩
    have HK3 := Lib.hid (HK2.out.tr hk3)
    clear hk3
    go_wp2_with fail
    refine (ok_nil _).mono ?_
    rintro e w' ⟨rfl, rfl⟩
    go_wp2_with fail
    refine (end_nil _).mono ?_
    rintro e w' ⟨rfl, rfl⟩
    go_wp2_with fail
    have HV3 := Lib.hid (HV.out.keep0 HK3.out)
    refine (from_any _ lb _ HV3.out).mono ?_
    rintro e w4 ⟨b, rfl, hb, hr4, hk4⟩
    have HR4 := Lib.hid hr4
    have HK4 := Lib.hid (HK3.out.tr hk4)
    have hbw : w.heap.size ≤ b := by have := HK3.out.size; omega
    clear hr4 hk4 hb
    by_cases hin : n ≤ (lb.length : Int) ∧ 0 ≤ n
    · obtain ⟨hin1, hin2⟩ := hin
      obtain ⟨k, rfl⟩ : ∃ k : Nat, n = (k : Int) := ⟨n.toNat, by omega⟩
      have hk : k ≤ lb.length := by omega
      have hkc : k ≤ cap := by omega
      have HT : Hid (takeS (some lb) (k : Int) = (lb.take k, some (lb.drop k))) := Lib.hid (by
        simp only [takeS]; rw [if_pos (by omega)]; simp)
      have HE : Hid (decide (some (lb.drop k) = some []) = ((k : Int) == (lb.length : Int))) := Lib.hid (by
        rw [Bool.eq_iff_iff, decide_eq_true_iff, beq_iff_eq, Option.some.injEq, List.drop_eq_nil_iff]; omega)
      clear hin2
      go_wp2
      go_upto_region 10 with (fail)
      obtain ⟨sz, hsz⟩ : ∃ sz : ByteArray, sz = ⟨(lb.take k).toArray⟩ := ⟨_, rfl⟩
      have HSZ := Lib.hid hsz
      clear hsz
      have HAB : Hid (∀ w w' : World, Kp (At b) w w' → Kp (fun j => w4.heap.size ≤ j ∨ j = b) w w') := Lib.hid (fun w w' h => h.mono (fun i _ (e : i = b) => Or.inr e))
      have hcvA : ∀ w', Kp (At b) w4 w' → (convert 22 9 (.slice ao k cap)).run Tryd.prog w' = .ok (.string sz) w' := fun w' hw => by
        rw [HSZ.out]
        exact run_string_of 22 5 9 Tryd.underlying22 Tryd.underlying5 Tryd.underlying9 ((beforeB HV.out k hk).keep ((HK4.out.mono (fun _ _ h => h.elim)).tr hw) (fun g _ h1 (h2 : g = b) => by omega))
      refine wp_region_plan (fun w => Kp (At b) w4 w) [(0, true), (1, true), (4, true), (5, true), (6, true), (7, true), (2, false), (3, false), (8, true), (9, true), (10, true), (11, false), (12, true), (13, true), (14, true), (16, true), (17, true), (18, true), (19, true), (15, false), (20, true), (21, true), (22, true)] (by kernel_rfl) (by kernel_rfl) (by kernel_rfl) (by kernel_rfl) (fun _ d _ _ _ h => by cases d <;> exact h) (Kp.refl _ _).drew ?_
      simp only [List.map_cons, List.map_nil, List.getElem?_toArray, List.getElem?_cons_zero, List.getElem?_cons_succ, Option.getD_some]
      repeat (first
              | (refine plan_quiet (v := ?_) (by rfl) (fun wq hwq => ?_) ?_; rotate_left 1; (focus (go_simp; try (with_reducible rfl); done)); simp only [Act.put, List.setIfInBounds_toArray, List.set_cons_zero, List.set_cons_succ])
              | (refine plan_skip (by rfl) ?_; simp only [Act.put, List.setIfInBounds_toArray, List.set_cons_zero, List.set_cons_succ]))
      refine plan_eff (by rfl) (fun K hK => ?_)
      go_simp
      refine (bytes_rs b (k : Int) _ w4.drew HR4.out (by rw [HT.out]; simp; omega)).mono ?_
      rw [HT.out]
      rintro e w5 ⟨v5, rfl, hd5, hr5, hk5, _⟩
      simp only []
      have hcv5 := run_string_of (P := Tryd.prog) (w := w5) 22 5 9 Tryd.underlying22 Tryd.underlying5 Tryd.underlying9 hd5
      rw [← HSZ.out] at hcv5
      have S5 : Hid (Kp (At b) w4 w5) := Lib.hid ((Kp.refl (At b) w4).drew.tr hk5)
      have H5 := Lib.hid hr5
      refine hK _ _ S5.out ?_
      clear hK K hd5 hr5 hk5
      refine plan_eff (by rfl) (fun K hK => ?_)
      go_simp
      refine hK _ _ S5.out ?_
      clear hK K hcv5
      repeat (first
              | (refine plan_quiet (v := ?_) (by rfl) (fun wq hwq => ?_) ?_; rotate_left 1; (focus (go_simp; try (with_reducible rfl); done)); simp only [Act.put, List.setIfInBounds_toArray, List.set_cons_zero, List.set_cons_succ])
              | (refine plan_skip (by rfl) ?_; simp only [Act.put, List.setIfInBounds_toArray, List.set_cons_zero, List.set_cons_succ]))
      refine plan_eff (by rfl) (fun K hK => ?_)
      go_simp
      refine (ok_rs b _ w5 H5.out).mono ?_
      rintro e w6 ⟨rfl, rfl⟩
      simp only [Option.isSome_some]
      refine hK _ _ S5.out ?_
      clear hK K
      repeat (first
              | (refine plan_quiet (v := ?_) (by rfl) (fun wq hwq => ?_) ?_; rotate_left 1; (focus (go_simp; try (with_reducible rfl); done)); simp only [Act.put, List.setIfInBounds_toArray, List.set_cons_zero, List.set_cons_succ])
              | (refine plan_skip (by rfl) ?_; simp only [Act.put, List.setIfInBounds_toArray, List.set_cons_zero, List.set_cons_succ]))
      refine plan_eff (by rfl) (fun K hK => ?_)
      go_simp
      refine (end_rs b _ w5 H5.out).mono ?_
      rw [HE.out]
      rintro e w7 ⟨rfl, rfl⟩
      simp only []
      refine hK _ _ S5.out ?_
      clear hK K
      repeat (first
              | (refine plan_quiet (v := ?_) (by rfl) (fun wq hwq => ?_) ?_; rotate_left 1; (focus (go_simp; try (with_reducible rfl); done)); simp only [Act.put, List.setIfInBounds_toArray, List.set_cons_zero, List.set_cons_succ])
              | (refine plan_skip (by rfl) ?_; simp only [Act.put, List.setIfInBounds_toArray, List.set_cons_zero, List.set_cons_succ]))
      refine plan_nil ?_
      go_wp2
      go_ret
      exact ⟨by show Ending.returned (.bool _) = Ending.returned (.bool true); simp, HK4.out.trans S5.out (fun _ _ h => h) (fun j hj (h : j = b) => by omega)⟩
    · have HT : Hid (takeS (some lb) n = ([], none)) := Lib.hid (by
        simp only [takeS]; rw [if_neg (by omega)])
      have HN : Hid (takeS none 0 = ([], none)) := Lib.hid rfl
      by_cases h1 : n ≤ (lb.length : Int)
      · have h2 : ¬ 0 ≤ n := by omega
        clear hin
        go_wp2_with fail
        refine (bytes_rs b n _ w4 HR4.out (by rw [HT.out]; simp)).mono ?_
        rw [HT.out]
        rintro e w5 ⟨v5, rfl, hd5, hr5, hk5, _⟩
        obtain ⟨a5, c5, rfl, _⟩ := hd5.shapeB
        have S5 : Hid (Kp (At b) w4 w5) := Lib.hid hk5
        have H5 : Hid (Rs w5 b none) := Lib.hid hr5
        clear hd5 hr5 hk5
        simp only [List.length_nil]
        go_wp2_with fail
        refine (ok_rs b _ _ H5.out).mono ?_
        rintro e w' ⟨rfl, rfl⟩
        simp only [Option.isSome_none]
        go_wp2_with fail
        refine (byte_rs b _ _ H5.out).mono ?_
        rintro e w6 ⟨rfl, hr6, hk6⟩
        have S6 := Lib.hid (S5.out.tr hk6)
        have H6 : Hid (Rs w6 b none) := Lib.hid hr6
        clear hr6 hk6
        rw [show (byteS none).1 = 0 from rfl]
        go_wp2_with fail
        refine (text_rs b _ _ H6.out).mono ?_
        rintro e w7 ⟨t7, rfl, ht7, hr7, hk7⟩
        rw [show textS none = ([], none) from rfl] at ht7 hr7
        obtain rfl : t7 = .empty := str_ext (by rw [ht7]; exact nil_toList.symm)
        have S7 := Lib.hid (S6.out.tr hk7)
        have H7 : Hid (Rs w7 b none) := Lib.hid hr7
        clear hr7 hk7 ht7
        go_wp2_with fail
        refine (bytes_rs b 0 _ w7 H7.out (by rw [HN.out]; simp)).mono ?_
        rw [HN.out]
        rintro e w8 ⟨v8, rfl, hd8, hr8, hk8, _⟩
        obtain ⟨a8, c8, rfl, _⟩ := hd8.shapeB
        have S8 := Lib.hid (S7.out.tr hk8)
        have H8 : Hid (Rs w8 b none) := Lib.hid hr8
        clear hd8 hr8 hk8
        simp only [List.length_nil]
        go_wp2_with fail
        refine (end_rs b _ _ H8.out).mono ?_
        rintro e w' ⟨rfl, rfl⟩
        rw [show decide ((none : Option (List UInt8)) = some []) = false from rfl]
        go_wp2
        go_ret
        exact ⟨rfl, HK4.out.trans S8.out (fun _ _ h => h) (fun j hj (h : j = b) => by omega)⟩
      · clear hin
        go_wp2_with fail
        refine (bytes_rs b n _ w4 HR4.out (by rw [HT.out]; simp)).mono ?_
        rw [HT.out]
        rintro e w5 ⟨v5, rfl, hd5, hr5, hk5, _⟩
        obtain ⟨a5, c5, rfl, _⟩ := hd5.shapeB
        have S5 : Hid (Kp (At b) w4 w5) := Lib.hid hk5
        have H5 : Hid (Rs w5 b none) := Lib.hid hr5
        clear hd5 hr5 hk5
        simp only [List.length_nil]
        go_wp2_with fail
        refine (ok_rs b _ _ H5.out).mono ?_
        rintro e w' ⟨rfl, rfl⟩
        simp only [Option.isSome_none]
        go_wp2_with fail
        refine (byte_rs b _ _ H5.out).mono ?_
        rintro e w6 ⟨rfl, hr6, hk6⟩
        have S6 := Lib.hid (S5.out.tr hk6)
        have H6 : Hid (Rs w6 b none) := Lib.hid hr6
        clear hr6 hk6
        rw [show (byteS none).1 = 0 from rfl]
        go_wp2_with fail
        refine (text_rs b _ _ H6.out).mono ?_
        rintro e w7 ⟨t7, rfl, ht7, hr7, hk7⟩
        rw [show textS none = ([], none) from rfl] at ht7 hr7
        obtain rfl : t7 = .empty := str_ext (by rw [ht7]; exact nil_toList.symm)
        have S7 := Lib.hid (S6.out.tr hk7)
        have H7 : Hid (Rs w7 b none) := Lib.hid hr7
        clear hr7 hk7 ht7
        go_wp2_with fail
        refine (bytes_rs b 0 _ w7 H7.out (by rw [HN.out]; simp)).mono ?_
        rw [HN.out]
        rintro e w8 ⟨v8, rfl, hd8, hr8, hk8, _⟩
        obtain ⟨a8, c8, rfl, _⟩ := hd8.shapeB
        have S8 := Lib.hid (S7.out.tr hk8)
        have H8 : Hid (Rs w8 b none) := Lib.hid hr8
        clear hd8 hr8 hk8
        simp only [List.length_nil]
        go_wp2_with fail
        refine (end_rs b _ _ H8.out).mono ?_
        rintro e w' ⟨rfl, rfl⟩
        rw [show decide ((none : Option (List UInt8)) = some []) = false from rfl]
        go_wp2
        go_ret
        exact ⟨rfl, HK4.out.trans S8.out (fun _ _ h => h) (fun j hj (h : j = b) => by omega)⟩
end Go.Proofs.YtigghfbochemgaaDoor
