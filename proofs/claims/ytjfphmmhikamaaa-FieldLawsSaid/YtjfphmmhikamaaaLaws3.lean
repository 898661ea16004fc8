/- The law FieldLaws: its walk. -/
import Derived.Test.YtjfphmmhikamaaaFit3
import Derived.Test.YtjfphmmhikamaaaLike
namespace Go.Proofs.Ytjfphmmhikamaaa
open Go Go.RowKit
variable {R : List Value → Nat → Prop}
/-- A part of an array of bytes. -/
theorem rd_part {w : World} {g : Nat} {T : TypeId} {L : List UInt8} (h : Blk w g T (bys L)) (i : Nat) (hl : 32 * i + 32 ≤ L.length) : Rd w (.slice (some ⟨g, 32 * i, none⟩) 32 32) (bys ((L.drop (32 * i)).take 32)) := by
  have hn : ((L.drop (32 * i)).take 32).length = 32 := by simp; omega
  refine ⟨some ⟨g, 32 * i, none⟩, 32, by rw [bys_len, hn], by rw [bys_len, hn]; omega, by unfold maxLen; omega, by simp, ?_⟩
  intro ad e j u hu
  cases e
  have hj : j < 32 := by
    have := (List.getElem?_eq_some_iff.1 hu).1
    rwa [bys_len, hn] at this
  rw [show ((⟨g, 32 * i, none⟩ : Addr).add j) = ⟨g, 32 * i + j, none⟩ by unfold Addr.add; split <;> simp_all, blk_cell h]
  rw [← hu]
  simp [bys, hj]
theorem laws_add (a b : Nat) : decide ((a + b) % 57896044618658097711785492504343953926634992332820282019728792003956564819949 = (b + a) % 57896044618658097711785492504343953926634992332820282019728792003956564819949) = true := decide_eq_true (by rw [Nat.add_comm])
theorem laws_mul (a b : Nat) : decide (a * b % 57896044618658097711785492504343953926634992332820282019728792003956564819949 = b * a % 57896044618658097711785492504343953926634992332820282019728792003956564819949) = true := decide_eq_true (by rw [Nat.mul_comm])
theorem laws_dist (a b c : Nat) : decide (a * ((b + c) % 57896044618658097711785492504343953926634992332820282019728792003956564819949) % 57896044618658097711785492504343953926634992332820282019728792003956564819949 = (a * b % 57896044618658097711785492504343953926634992332820282019728792003956564819949 + a * c % 57896044618658097711785492504343953926634992332820282019728792003956564819949) % 57896044618658097711785492504343953926634992332820282019728792003956564819949) = true := decide_eq_true (by rw [Nat.mul_mod_mod, ← Nat.add_mod, Nat.mul_add])
theorem laws_assoc (a b c : Nat) : decide (a * b % 57896044618658097711785492504343953926634992332820282019728792003956564819949 * c % 57896044618658097711785492504343953926634992332820282019728792003956564819949 = a * (b * c % 57896044618658097711785492504343953926634992332820282019728792003956564819949) % 57896044618658097711785492504343953926634992332820282019728792003956564819949) = true := decide_eq_true (by rw [Nat.mod_mul_mod, Nat.mul_mod_mod, Nat.mul_assoc])
theorem laws_sub (a b : Nat) (ha : a < 57896044618658097711785492504343953926634992332820282019728792003956564819949) (hb : b < 57896044618658097711785492504343953926634992332820282019728792003956564819949) : decide (((a + 57896044618658097711785492504343953926634992332820282019728792003956564819949 - b) % 57896044618658097711785492504343953926634992332820282019728792003956564819949 + b) % 57896044618658097711785492504343953926634992332820282019728792003956564819949 = a) = true := decide_eq_true (by omega)
theorem laws_odd (k : Nat) : ((k : Int).tmod 2 == 1) = decide (k % 2 = 1) := by
  rw [Bool.eq_iff_iff, beq_iff_eq, decide_eq_true_iff, Int.tmod_eq_emod_of_nonneg (by omega)]
  omega
set_option maxRecDepth 20000 in
set_option maxHeartbeats 8000000 in
theorem flaws_walk (F : Fld R) (L : List UInt8) (k : Nat) (w : World) (hL : L.length = 96) (hk : k < 4294967296) :
    Calls Try.prog 9 #[.agg (bys L).toArray, .int .u32 k] w fun e w' => e = .returned (.bool true) ∧ Kp0 w w' := by
  have HF := Lib.hid F
  have HL := Lib.hid hL
  clear F hL
  go_enter Try.func9, Try.ntmps9
  go_upto_region 1 with (fail)
  have HBi := Lib.hid (blk0 w 71 (bys L))
  have HWi := Lib.hid ((Kp.refl (fun _ => False) w).alloc (.cells (bys L).toArray 71))
  change Code.wp _ _ _ _ (w.alloc (.cells (bys L).toArray 71))
  generalize (w.alloc (.cells (bys L).toArray 71)) = wi at HBi HWi
  go_upto_region 3 with (
    (go_at_call 25; refine (fit_any HF.out _).mono ?_; rintro e v0 ⟨rfl, hk0⟩; have HB0 := Lib.hid (HBi.out.kp0 hk0); have HW0 := Lib.hid (HWi.out.tr hk0); clear hk0))
  go_upto_region 4 with (first
    | (go_at_call 27; refine (HF.out.read _ ((L.drop (32 * 0)).take 32) _ (rd_part HB0.out 0 (by rw [HL.out]; omega)) (by intro g' hg'; have := HB0.out.lt; simp [Value.ownBlock] at hg'; omega)).mono ?_; rintro e r1 ⟨c1, rfl, hc, hkr⟩; have HC1 := Lib.hid hc; have HP1 := Lib.hid hkr; clear hc hkr)
    | (refine wl_store_blk rfl 45 (.tmp 5) (.tmp 18) rfl r1.heap.size _ _ c1 rfl rfl (blk0 r1 _ _) HC1.out.2.2.1 (len_of (T := 45) (by kernel_rfl) HC1.out.2.2.1) HC1.out.2.2.2 ?_; intro v1 hA hK; have hh := HP1.out.tr (kp_blk hK ((Kp.refl _ r1).alloc _) (Nat.le_refl _)); have HX11 := Lib.hid hA; have HB1 := Lib.hid (HB0.out.kp0 hh); have HW1 := Lib.hid (HW0.out.tr hh); clear hA hK hh))
  go_upto_region 5 with (first
    | (go_at_call 27; refine (HF.out.read _ ((L.drop (32 * 1)).take 32) _ (rd_part HB1.out 1 (by rw [HL.out]; omega)) (by intro g' hg'; have := HB1.out.lt; simp [Value.ownBlock] at hg'; omega)).mono ?_; rintro e r2 ⟨c2, rfl, hc, hkr⟩; have HC2 := Lib.hid hc; have HP2 := Lib.hid hkr; clear hc hkr)
    | (refine wl_store_blk rfl 45 (.tmp 7) (.tmp 24) rfl r2.heap.size _ _ c2 rfl rfl (blk0 r2 _ _) HC2.out.2.2.1 (len_of (T := 45) (by kernel_rfl) HC2.out.2.2.1) HC2.out.2.2.2 ?_; intro v2 hA hK; have hh := HP2.out.tr (kp_blk hK ((Kp.refl _ r2).alloc _) (Nat.le_refl _)); have HX22 := Lib.hid hA; have HB2 := Lib.hid (HB1.out.kp0 hh); have HW2 := Lib.hid (HW1.out.tr hh); have HX12 := Lib.hid (HX11.out.kp0 hh); clear hA hK hh))
  go_upto_region 6 with (first
    | (go_at_call 27; refine (HF.out.read _ ((L.drop (32 * 2)).take 32) _ (rd_part HB2.out 2 (by rw [HL.out]; omega)) (by intro g' hg'; have := HB2.out.lt; simp [Value.ownBlock] at hg'; omega)).mono ?_; rintro e r3 ⟨c3, rfl, hc, hkr⟩; have HC3 := Lib.hid hc; have HP3 := Lib.hid hkr; clear hc hkr)
    | (refine wl_store_blk rfl 45 (.tmp 9) (.tmp 30) rfl r3.heap.size _ _ c3 rfl rfl (blk0 r3 _ _) HC3.out.2.2.1 (len_of (T := 45) (by kernel_rfl) HC3.out.2.2.1) HC3.out.2.2.2 ?_; intro v3 hA hK; have hh := HP3.out.tr (kp_blk hK ((Kp.refl _ r3).alloc _) (Nat.le_refl _)); have HX33 := Lib.hid hA; have HB3 := Lib.hid (HB2.out.kp0 hh); have HW3 := Lib.hid (HW2.out.tr hh); have HX13 := Lib.hid (HX12.out.kp0 hh); have HX23 := Lib.hid (HX22.out.kp0 hh); clear hA hK hh))
  go_upto_region 7 with (first
    | (go_at_call 43; refine (HF.out.small k _ hk).mono ?_; rintro e r4 ⟨c4, rfl, hc, hkr⟩; have HC4 := Lib.hid hc; have HP4 := Lib.hid hkr; clear hc hkr)
    | (refine wl_store_blk rfl 45 (.tmp 11) (.tmp 33) rfl r4.heap.size _ _ c4 rfl rfl (blk0 r4 _ _) HC4.out.2.2.1 (len_of (T := 45) (by kernel_rfl) HC4.out.2.2.1) HC4.out.2.2.2 ?_; intro v4 hA hK; have hh := HP4.out.tr (kp_blk hK ((Kp.refl _ r4).alloc _) (Nat.le_refl _)); have HX44 := Lib.hid hA; have HX14 := Lib.hid (HX13.out.kp0 hh); have HX24 := Lib.hid (HX23.out.kp0 hh); have HX34 := Lib.hid (HX33.out.kp0 hh); have HW4 := Lib.hid (HW3.out.tr hh); clear hA hK hh))
  try simp only [Act.put]
  obtain ⟨n1, hn1⟩ : ∃ n, n = readN ((L.drop (32 * 0)).take 32) := ⟨_, rfl⟩
  obtain ⟨n2, hn2⟩ : ∃ n, n = readN ((L.drop (32 * 1)).take 32) := ⟨_, rfl⟩
  obtain ⟨n3, hn3⟩ : ∃ n, n = readN ((L.drop (32 * 2)).take 32) := ⟨_, rfl⟩
  rw [← hn1] at HC1
  rw [← hn2] at HC2
  rw [← hn3] at HC3
  have HOD := laws_odd k
  have hkw : IntKind.i64.wrap (k : Int) = (k : Int) := by rw [IntKind.wrap_i64]; omega
  clear hn1 hn2 hn3 HB0 HW0 HB1 HB2 HB3 HX11 HX12 HX22 HX13 HX23 HX33 HW1 HW2 HW3 HBi HWi HP1 HP2 HP3 HP4
  have HS0 : Hid (Kp0 v4 v4.drew) := Lib.hid ((Kp.refl _ v4).drew)
  refine wp_region_wall [] (fun w' : World => Kp0 v4 w') (.quiet 0 (.quiet 1 (.quiet 3 (.quiet 4 (.eff 2 (.eff 5 (.eff 6 (.quiet 7 (.quiet 8 (.quiet 9 (.quiet 11 (.quiet 12 (.eff 10 (.eff 13 (.eff 14 (.quiet 15 (.quiet 16 (.quiet 17 (.quiet 18 (.quiet 19 (.quiet 22 (.quiet 23 (.quiet 25 (.quiet 26 (.eff 20 (.eff 21 (.eff 24 (.eff 27 (.eff 28 (.eff 29 (.quiet 30 (.quiet 31 (.quiet 32 (.quiet 33 (.quiet 35 (.quiet 37 (.quiet 38 (.quiet 39 (.eff 34 (.eff 36 (.eff 40 (.eff 41 (.eff 42 (.quiet 43 (.quiet 44 (.quiet 45 (.quiet 46 (.quiet 48 (.quiet 50 (.eff 47 (.eff 49 (.eff 51 (.quiet 52 (.quiet 53 (.quiet 54 (.quiet 55 (.quiet 56 (.eff 57 (.eff 58 (.quiet 59 (.quiet 60 (.quiet 61 (.quiet 63 (.quiet 64 (.quiet 65 (.eff 62 (.quiet 66 (.quiet 67 (.quiet 68 .done))))))))))))))))))))))))))))))))))))))))))))))))))))))))))))))))))))) (by kernel_rfl) (by kernel_rfl) (by kernel_rfl) (by kernel_rfl) (fun _ d _ _ _ h => by cases d <;> exact h) HS0.out ?_
  repeat (first
    | (refine pw_quiet (v := .agg c1.toArray) rfl (by rfl) (fun wq hwq => run_load_blk 45 (.tmp 5) rfl r1.heap.size _ c1 rfl (HX14.out.kp0 hwq) _ Try.underlying45 rfl HC1.out.2.2.1) rfl ?_; simp only [List.setIfInBounds_toArray, List.set_cons_zero, List.set_cons_succ])
    | (refine pw_quiet (v := .agg c2.toArray) rfl (by rfl) (fun wq hwq => run_load_blk 45 (.tmp 7) rfl r2.heap.size _ c2 rfl (HX24.out.kp0 hwq) _ Try.underlying45 rfl HC2.out.2.2.1) rfl ?_; simp only [List.setIfInBounds_toArray, List.set_cons_zero, List.set_cons_succ])
    | (refine pw_quiet (v := .agg c3.toArray) rfl (by rfl) (fun wq hwq => run_load_blk 45 (.tmp 9) rfl r3.heap.size _ c3 rfl (HX34.out.kp0 hwq) _ Try.underlying45 rfl HC3.out.2.2.1) rfl ?_; simp only [List.setIfInBounds_toArray, List.set_cons_zero, List.set_cons_succ])
    | (refine pw_quiet (v := .agg c4.toArray) rfl (by rfl) (fun wq hwq => run_load_blk 45 (.tmp 11) rfl r4.heap.size _ c4 rfl (HX44.out.kp0 hwq) _ Try.underlying45 rfl HC4.out.2.2.1) rfl ?_; simp only [List.setIfInBounds_toArray, List.set_cons_zero, List.set_cons_succ])
    | (refine pw_quiet (v := ?_) rfl (by rfl) (fun wq hwq => ?_) rfl ?_; rotate_left 1; (focus (go_simp; try (with_reducible rfl); done)); simp only [List.setIfInBounds_toArray, List.set_cons_zero, List.set_cons_succ])
    | (refine pw_skip rfl (by rfl) rfl ?_; simp only [List.setIfInBounds_toArray, List.set_cons_zero, List.set_cons_succ])
    | (refine pw_skipE rfl (by rfl) rfl ?_; simp only [List.setIfInBounds_toArray, List.set_cons_zero, List.set_cons_succ]))
  refine pw_eff rfl (by rfl) (fun K hK => ?_)
  go_simp
  refine (HF.out.add c1 c2 n1 n2 _ HC1.out HC2.out).mono ?_
  rintro e x1 ⟨d1, rfl, hc1, hk1⟩
  have Hd1 := Lib.hid hc1
  clear hc1
  simp only []
  have HS1 : Hid (Kp0 v4 x1) := Lib.hid (HS0.out.tr hk1)
  clear hk1
  refine hK (fun w' : World => Kp0 v4 w') _ _ (fun x h => h) HS1.out ?_
  clear hK K
  refine pw_eff rfl (by rfl) (fun K hK => ?_)
  go_simp
  refine (HF.out.add c2 c1 n2 n1 _ HC2.out HC1.out).mono ?_
  rintro e x2 ⟨d2, rfl, hc2, hk2⟩
  have Hd2 := Lib.hid hc2
  clear hc2
  simp only []
  have HS2 : Hid (Kp0 v4 x2) := Lib.hid (HS1.out.tr hk2)
  clear hk2
  refine hK (fun w' : World => Kp0 v4 w') _ _ (fun x h => h) HS2.out ?_
  clear hK K
  refine pw_eff rfl (by rfl) (fun K hK => ?_)
  go_simp
  refine (HF.out.same d1 d2 _ _ _ Hd1.out Hd2.out).mono ?_
  rw [laws_add]
  rintro e x3 ⟨rfl, hk3⟩
  simp only []
  have HS3 : Hid (Kp0 v4 x3) := Lib.hid (HS2.out.tr hk3)
  clear hk3
  refine hK (fun w' : World => Kp0 v4 w') _ _ (fun x h => h) HS3.out ?_
  clear hK K
  repeat (first
    | (refine pw_quiet (v := .agg c1.toArray) rfl (by rfl) (fun wq hwq => run_load_blk 45 (.tmp 5) rfl r1.heap.size _ c1 rfl (HX14.out.kp0 hwq) _ Try.underlying45 rfl HC1.out.2.2.1) rfl ?_; simp only [List.setIfInBounds_toArray, List.set_cons_zero, List.set_cons_succ])
    | (refine pw_quiet (v := .agg c2.toArray) rfl (by rfl) (fun wq hwq => run_load_blk 45 (.tmp 7) rfl r2.heap.size _ c2 rfl (HX24.out.kp0 hwq) _ Try.underlying45 rfl HC2.out.2.2.1) rfl ?_; simp only [List.setIfInBounds_toArray, List.set_cons_zero, List.set_cons_succ])
    | (refine pw_quiet (v := .agg c3.toArray) rfl (by rfl) (fun wq hwq => run_load_blk 45 (.tmp 9) rfl r3.heap.size _ c3 rfl (HX34.out.kp0 hwq) _ Try.underlying45 rfl HC3.out.2.2.1) rfl ?_; simp only [List.setIfInBounds_toArray, List.set_cons_zero, List.set_cons_succ])
    | (refine pw_quiet (v := .agg c4.toArray) rfl (by rfl) (fun wq hwq => run_load_blk 45 (.tmp 11) rfl r4.heap.size _ c4 rfl (HX44.out.kp0 hwq) _ Try.underlying45 rfl HC4.out.2.2.1) rfl ?_; simp only [List.setIfInBounds_toArray, List.set_cons_zero, List.set_cons_succ])
    | (refine pw_quiet (v := ?_) rfl (by rfl) (fun wq hwq => ?_) rfl ?_; rotate_left 1; (focus (go_simp; try (with_reducible rfl); done)); simp only [List.setIfInBounds_toArray, List.set_cons_zero, List.set_cons_succ])
    | (refine pw_skip rfl (by rfl) rfl ?_; simp only [List.setIfInBounds_toArray, List.set_cons_zero, List.set_cons_succ])
    | (refine pw_skipE rfl (by rfl) rfl ?_; simp only [List.setIfInBounds_toArray, List.set_cons_zero, List.set_cons_succ]))
  refine pw_eff rfl (by rfl) (fun K hK => ?_)
  go_simp
  refine (HF.out.mul c1 c2 n1 n2 _ HC1.out HC2.out).mono ?_
  rintro e x4 ⟨d3, rfl, hc4, hk4⟩
  have Hd3 := Lib.hid hc4
  clear hc4
  simp only []
  have HS4 : Hid (Kp0 v4 x4) := Lib.hid (HS3.out.tr hk4)
  clear hk4
  refine hK (fun w' : World => Kp0 v4 w') _ _ (fun x h => h) HS4.out ?_
  clear hK K
  refine pw_eff rfl (by rfl) (fun K hK => ?_)
  go_simp
  refine (HF.out.mul c2 c1 n2 n1 _ HC2.out HC1.out).mono ?_
  rintro e x5 ⟨d4, rfl, hc5, hk5⟩
  have Hd4 := Lib.hid hc5
  clear hc5
  simp only []
  have HS5 : Hid (Kp0 v4 x5) := Lib.hid (HS4.out.tr hk5)
  clear hk5
  refine hK (fun w' : World => Kp0 v4 w') _ _ (fun x h => h) HS5.out ?_
  clear hK K
  refine pw_eff rfl (by rfl) (fun K hK => ?_)
  go_simp
  refine (HF.out.same d3 d4 _ _ _ Hd3.out Hd4.out).mono ?_
  rw [laws_mul]
  rintro e x6 ⟨rfl, hk6⟩
  simp only []
  have HS6 : Hid (Kp0 v4 x6) := Lib.hid (HS5.out.tr hk6)
  clear hk6
  refine hK (fun w' : World => Kp0 v4 w') _ _ (fun x h => h) HS6.out ?_
  clear hK K
  repeat (first
    | (refine pw_quiet (v := .agg c1.toArray) rfl (by rfl) (fun wq hwq => run_load_blk 45 (.tmp 5) rfl r1.heap.size _ c1 rfl (HX14.out.kp0 hwq) _ Try.underlying45 rfl HC1.out.2.2.1) rfl ?_; simp only [List.setIfInBounds_toArray, List.set_cons_zero, List.set_cons_succ])
    | (refine pw_quiet (v := .agg c2.toArray) rfl (by rfl) (fun wq hwq => run_load_blk 45 (.tmp 7) rfl r2.heap.size _ c2 rfl (HX24.out.kp0 hwq) _ Try.underlying45 rfl HC2.out.2.2.1) rfl ?_; simp only [List.setIfInBounds_toArray, List.set_cons_zero, List.set_cons_succ])
    | (refine pw_quiet (v := .agg c3.toArray) rfl (by rfl) (fun wq hwq => run_load_blk 45 (.tmp 9) rfl r3.heap.size _ c3 rfl (HX34.out.kp0 hwq) _ Try.underlying45 rfl HC3.out.2.2.1) rfl ?_; simp only [List.setIfInBounds_toArray, List.set_cons_zero, List.set_cons_succ])
    | (refine pw_quiet (v := .agg c4.toArray) rfl (by rfl) (fun wq hwq => run_load_blk 45 (.tmp 11) rfl r4.heap.size _ c4 rfl (HX44.out.kp0 hwq) _ Try.underlying45 rfl HC4.out.2.2.1) rfl ?_; simp only [List.setIfInBounds_toArray, List.set_cons_zero, List.set_cons_succ])
    | (refine pw_quiet (v := ?_) rfl (by rfl) (fun wq hwq => ?_) rfl ?_; rotate_left 1; (focus (go_simp; try (with_reducible rfl); done)); simp only [List.setIfInBounds_toArray, List.set_cons_zero, List.set_cons_succ])
    | (refine pw_skip rfl (by rfl) rfl ?_; simp only [List.setIfInBounds_toArray, List.set_cons_zero, List.set_cons_succ])
    | (refine pw_skipE rfl (by rfl) rfl ?_; simp only [List.setIfInBounds_toArray, List.set_cons_zero, List.set_cons_succ]))
  refine pw_eff rfl (by rfl) (fun K hK => ?_)
  go_simp
  refine (HF.out.add c2 c3 n2 n3 _ HC2.out HC3.out).mono ?_
  rintro e x7 ⟨d5, rfl, hc7, hk7⟩
  have Hd5 := Lib.hid hc7
  clear hc7
  simp only []
  have HS7 : Hid (Kp0 v4 x7) := Lib.hid (HS6.out.tr hk7)
  clear hk7
  refine hK (fun w' : World => Kp0 v4 w') _ _ (fun x h => h) HS7.out ?_
  clear hK K
  refine pw_eff rfl (by rfl) (fun K hK => ?_)
  go_simp
  refine (HF.out.mul c1 d5 n1 _ _ HC1.out Hd5.out).mono ?_
  rintro e x8 ⟨d6, rfl, hc8, hk8⟩
  have Hd6 := Lib.hid hc8
  clear hc8
  simp only []
  have HS8 : Hid (Kp0 v4 x8) := Lib.hid (HS7.out.tr hk8)
  clear hk8
  refine hK (fun w' : World => Kp0 v4 w') _ _ (fun x h => h) HS8.out ?_
  clear hK K
  refine pw_eff rfl (by rfl) (fun K hK => ?_)
  go_simp
  refine (HF.out.mul c1 c2 n1 n2 _ HC1.out HC2.out).mono ?_
  rintro e x9 ⟨d7, rfl, hc9, hk9⟩
  have Hd7 := Lib.hid hc9
  clear hc9
  simp only []
  have HS9 : Hid (Kp0 v4 x9) := Lib.hid (HS8.out.tr hk9)
  clear hk9
  refine hK (fun w' : World => Kp0 v4 w') _ _ (fun x h => h) HS9.out ?_
  clear hK K
  refine pw_eff rfl (by rfl) (fun K hK => ?_)
  go_simp
  refine (HF.out.mul c1 c3 n1 n3 _ HC1.out HC3.out).mono ?_
  rintro e x10 ⟨d8, rfl, hc10, hk10⟩
  have Hd8 := Lib.hid hc10
  clear hc10
  simp only []
  have HS10 : Hid (Kp0 v4 x10) := Lib.hid (HS9.out.tr hk10)
  clear hk10
  refine hK (fun w' : World => Kp0 v4 w') _ _ (fun x h => h) HS10.out ?_
  clear hK K
  refine pw_eff rfl (by rfl) (fun K hK => ?_)
  go_simp
  refine (HF.out.add d7 d8 _ _ _ Hd7.out Hd8.out).mono ?_
  rintro e x11 ⟨d9, rfl, hc11, hk11⟩
  have Hd9 := Lib.hid hc11
  clear hc11
  simp only []
  have HS11 : Hid (Kp0 v4 x11) := Lib.hid (HS10.out.tr hk11)
  clear hk11
  refine hK (fun w' : World => Kp0 v4 w') _ _ (fun x h => h) HS11.out ?_
  clear hK K
  refine pw_eff rfl (by rfl) (fun K hK => ?_)
  go_simp
  refine (HF.out.same d6 d9 _ _ _ Hd6.out Hd9.out).mono ?_
  rw [laws_dist]
  rintro e x12 ⟨rfl, hk12⟩
  simp only []
  have HS12 : Hid (Kp0 v4 x12) := Lib.hid (HS11.out.tr hk12)
  clear hk12
  refine hK (fun w' : World => Kp0 v4 w') _ _ (fun x h => h) HS12.out ?_
  clear hK K
  repeat (first
    | (refine pw_quiet (v := .agg c1.toArray) rfl (by rfl) (fun wq hwq => run_load_blk 45 (.tmp 5) rfl r1.heap.size _ c1 rfl (HX14.out.kp0 hwq) _ Try.underlying45 rfl HC1.out.2.2.1) rfl ?_; simp only [List.setIfInBounds_toArray, List.set_cons_zero, List.set_cons_succ])
    | (refine pw_quiet (v := .agg c2.toArray) rfl (by rfl) (fun wq hwq => run_load_blk 45 (.tmp 7) rfl r2.heap.size _ c2 rfl (HX24.out.kp0 hwq) _ Try.underlying45 rfl HC2.out.2.2.1) rfl ?_; simp only [List.setIfInBounds_toArray, List.set_cons_zero, List.set_cons_succ])
    | (refine pw_quiet (v := .agg c3.toArray) rfl (by rfl) (fun wq hwq => run_load_blk 45 (.tmp 9) rfl r3.heap.size _ c3 rfl (HX34.out.kp0 hwq) _ Try.underlying45 rfl HC3.out.2.2.1) rfl ?_; simp only [List.setIfInBounds_toArray, List.set_cons_zero, List.set_cons_succ])
    | (refine pw_quiet (v := .agg c4.toArray) rfl (by rfl) (fun wq hwq => run_load_blk 45 (.tmp 11) rfl r4.heap.size _ c4 rfl (HX44.out.kp0 hwq) _ Try.underlying45 rfl HC4.out.2.2.1) rfl ?_; simp only [List.setIfInBounds_toArray, List.set_cons_zero, List.set_cons_succ])
    | (refine pw_quiet (v := ?_) rfl (by rfl) (fun wq hwq => ?_) rfl ?_; rotate_left 1; (focus (go_simp; try (with_reducible rfl); done)); simp only [List.setIfInBounds_toArray, List.set_cons_zero, List.set_cons_succ])
    | (refine pw_skip rfl (by rfl) rfl ?_; simp only [List.setIfInBounds_toArray, List.set_cons_zero, List.set_cons_succ])
    | (refine pw_skipE rfl (by rfl) rfl ?_; simp only [List.setIfInBounds_toArray, List.set_cons_zero, List.set_cons_succ]))
  refine pw_eff rfl (by rfl) (fun K hK => ?_)
  go_simp
  refine (HF.out.mul c1 c2 n1 n2 _ HC1.out HC2.out).mono ?_
  rintro e x13 ⟨da, rfl, hc13, hk13⟩
  have Hda := Lib.hid hc13
  clear hc13
  simp only []
  have HS13 : Hid (Kp0 v4 x13) := Lib.hid (HS12.out.tr hk13)
  clear hk13
  refine hK (fun w' : World => Kp0 v4 w') _ _ (fun x h => h) HS13.out ?_
  clear hK K
  refine pw_eff rfl (by rfl) (fun K hK => ?_)
  go_simp
  refine (HF.out.mul da c3 _ n3 _ Hda.out HC3.out).mono ?_
  rintro e x14 ⟨db, rfl, hc14, hk14⟩
  have Hdb := Lib.hid hc14
  clear hc14
  simp only []
  have HS14 : Hid (Kp0 v4 x14) := Lib.hid (HS13.out.tr hk14)
  clear hk14
  refine hK (fun w' : World => Kp0 v4 w') _ _ (fun x h => h) HS14.out ?_
  clear hK K
  refine pw_eff rfl (by rfl) (fun K hK => ?_)
  go_simp
  refine (HF.out.mul c2 c3 n2 n3 _ HC2.out HC3.out).mono ?_
  rintro e x15 ⟨dc, rfl, hc15, hk15⟩
  have Hdc := Lib.hid hc15
  clear hc15
  simp only []
  have HS15 : Hid (Kp0 v4 x15) := Lib.hid (HS14.out.tr hk15)
  clear hk15
  refine hK (fun w' : World => Kp0 v4 w') _ _ (fun x h => h) HS15.out ?_
  clear hK K
  refine pw_eff rfl (by rfl) (fun K hK => ?_)
  go_simp
  refine (HF.out.mul c1 dc n1 _ _ HC1.out Hdc.out).mono ?_
  rintro e x16 ⟨dd, rfl, hc16, hk16⟩
  have Hdd := Lib.hid hc16
  clear hc16
  simp only []
  have HS16 : Hid (Kp0 v4 x16) := Lib.hid (HS15.out.tr hk16)
  clear hk16
  refine hK (fun w' : World => Kp0 v4 w') _ _ (fun x h => h) HS16.out ?_
  clear hK K
  refine pw_eff rfl (by rfl) (fun K hK => ?_)
  go_simp
  refine (HF.out.same db dd _ _ _ Hdb.out Hdd.out).mono ?_
  rw [laws_assoc]
  rintro e x17 ⟨rfl, hk17⟩
  simp only []
  have HS17 : Hid (Kp0 v4 x17) := Lib.hid (HS16.out.tr hk17)
  clear hk17
  refine hK (fun w' : World => Kp0 v4 w') _ _ (fun x h => h) HS17.out ?_
  clear hK K
  repeat (first
    | (refine pw_quiet (v := .agg c1.toArray) rfl (by rfl) (fun wq hwq => run_load_blk 45 (.tmp 5) rfl r1.heap.size _ c1 rfl (HX14.out.kp0 hwq) _ Try.underlying45 rfl HC1.out.2.2.1) rfl ?_; simp only [List.setIfInBounds_toArray, List.set_cons_zero, List.set_cons_succ])
    | (refine pw_quiet (v := .agg c2.toArray) rfl (by rfl) (fun wq hwq => run_load_blk 45 (.tmp 7) rfl r2.heap.size _ c2 rfl (HX24.out.kp0 hwq) _ Try.underlying45 rfl HC2.out.2.2.1) rfl ?_; simp only [List.setIfInBounds_toArray, List.set_cons_zero, List.set_cons_succ])
    | (refine pw_quiet (v := .agg c3.toArray) rfl (by rfl) (fun wq hwq => run_load_blk 45 (.tmp 9) rfl r3.heap.size _ c3 rfl (HX34.out.kp0 hwq) _ Try.underlying45 rfl HC3.out.2.2.1) rfl ?_; simp only [List.setIfInBounds_toArray, List.set_cons_zero, List.set_cons_succ])
    | (refine pw_quiet (v := .agg c4.toArray) rfl (by rfl) (fun wq hwq => run_load_blk 45 (.tmp 11) rfl r4.heap.size _ c4 rfl (HX44.out.kp0 hwq) _ Try.underlying45 rfl HC4.out.2.2.1) rfl ?_; simp only [List.setIfInBounds_toArray, List.set_cons_zero, List.set_cons_succ])
    | (refine pw_quiet (v := ?_) rfl (by rfl) (fun wq hwq => ?_) rfl ?_; rotate_left 1; (focus (go_simp; try (with_reducible rfl); done)); simp only [List.setIfInBounds_toArray, List.set_cons_zero, List.set_cons_succ])
    | (refine pw_skip rfl (by rfl) rfl ?_; simp only [List.setIfInBounds_toArray, List.set_cons_zero, List.set_cons_succ])
    | (refine pw_skipE rfl (by rfl) rfl ?_; simp only [List.setIfInBounds_toArray, List.set_cons_zero, List.set_cons_succ]))
  refine pw_eff rfl (by rfl) (fun K hK => ?_)
  go_simp
  refine (HF.out.sub c1 c2 n1 n2 _ HC1.out HC2.out).mono ?_
  rintro e x18 ⟨de, rfl, hc18, hk18⟩
  have Hde := Lib.hid hc18
  clear hc18
  simp only []
  have HS18 : Hid (Kp0 v4 x18) := Lib.hid (HS17.out.tr hk18)
  clear hk18
  refine hK (fun w' : World => Kp0 v4 w') _ _ (fun x h => h) HS18.out ?_
  clear hK K
  refine pw_eff rfl (by rfl) (fun K hK => ?_)
  go_simp
  refine (HF.out.add de c2 _ n2 _ Hde.out HC2.out).mono ?_
  rintro e x19 ⟨df, rfl, hc19, hk19⟩
  have Hdf := Lib.hid hc19
  clear hc19
  simp only []
  have HS19 : Hid (Kp0 v4 x19) := Lib.hid (HS18.out.tr hk19)
  clear hk19
  refine hK (fun w' : World => Kp0 v4 w') _ _ (fun x h => h) HS19.out ?_
  clear hK K
  refine pw_eff rfl (by rfl) (fun K hK => ?_)
  go_simp
  refine (HF.out.same df c1 _ n1 _ Hdf.out HC1.out).mono ?_
  rw [laws_sub n1 n2 HC1.out.2.1 HC2.out.2.1]
  rintro e x20 ⟨rfl, hk20⟩
  simp only []
  have HS20 : Hid (Kp0 v4 x20) := Lib.hid (HS19.out.tr hk20)
  clear hk20
  refine hK (fun w' : World => Kp0 v4 w') _ _ (fun x h => h) HS20.out ?_
  clear hK K
  repeat (first
    | (refine pw_quiet (v := .agg c1.toArray) rfl (by rfl) (fun wq hwq => run_load_blk 45 (.tmp 5) rfl r1.heap.size _ c1 rfl (HX14.out.kp0 hwq) _ Try.underlying45 rfl HC1.out.2.2.1) rfl ?_; simp only [List.setIfInBounds_toArray, List.set_cons_zero, List.set_cons_succ])
    | (refine pw_quiet (v := .agg c2.toArray) rfl (by rfl) (fun wq hwq => run_load_blk 45 (.tmp 7) rfl r2.heap.size _ c2 rfl (HX24.out.kp0 hwq) _ Try.underlying45 rfl HC2.out.2.2.1) rfl ?_; simp only [List.setIfInBounds_toArray, List.set_cons_zero, List.set_cons_succ])
    | (refine pw_quiet (v := .agg c3.toArray) rfl (by rfl) (fun wq hwq => run_load_blk 45 (.tmp 9) rfl r3.heap.size _ c3 rfl (HX34.out.kp0 hwq) _ Try.underlying45 rfl HC3.out.2.2.1) rfl ?_; simp only [List.setIfInBounds_toArray, List.set_cons_zero, List.set_cons_succ])
    | (refine pw_quiet (v := .agg c4.toArray) rfl (by rfl) (fun wq hwq => run_load_blk 45 (.tmp 11) rfl r4.heap.size _ c4 rfl (HX44.out.kp0 hwq) _ Try.underlying45 rfl HC4.out.2.2.1) rfl ?_; simp only [List.setIfInBounds_toArray, List.set_cons_zero, List.set_cons_succ])
    | (refine pw_quiet (v := ?_) rfl (by rfl) (fun wq hwq => ?_) rfl ?_; rotate_left 1; (focus (go_simp; try (with_reducible rfl); done)); simp only [List.setIfInBounds_toArray, List.set_cons_zero, List.set_cons_succ])
    | (refine pw_skip rfl (by rfl) rfl ?_; simp only [List.setIfInBounds_toArray, List.set_cons_zero, List.set_cons_succ])
    | (refine pw_skipE rfl (by rfl) rfl ?_; simp only [List.setIfInBounds_toArray, List.set_cons_zero, List.set_cons_succ]))
  refine pw_eff rfl (by rfl) (fun K hK => ?_)
  go_simp
  try rw [hkw]
  refine (small_any k _ (by omega)).mono ?_
  rintro e x21 ⟨rfl, hk21⟩
  simp only []
  have HS21 : Hid (Kp0 v4 x21) := Lib.hid (HS20.out.tr hk21)
  clear hk21
  refine hK (fun w' : World => Kp0 v4 w') _ _ (fun x h => h) HS21.out ?_
  clear hK K
  refine pw_eff rfl (by rfl) (fun K hK => ?_)
  go_simp
  refine (like_any HF.out c4 k _ HC4.out).mono ?_
  rintro e x22 ⟨rfl, hk22⟩
  simp only []
  have HS22 : Hid (Kp0 v4 x22) := Lib.hid (HS21.out.tr hk22)
  clear hk22
  refine hK (fun w' : World => Kp0 v4 w') _ _ (fun x h => h) HS22.out ?_
  clear hK K
  repeat (first
    | (refine pw_quiet (v := .agg c1.toArray) rfl (by rfl) (fun wq hwq => run_load_blk 45 (.tmp 5) rfl r1.heap.size _ c1 rfl (HX14.out.kp0 hwq) _ Try.underlying45 rfl HC1.out.2.2.1) rfl ?_; simp only [List.setIfInBounds_toArray, List.set_cons_zero, List.set_cons_succ])
    | (refine pw_quiet (v := .agg c2.toArray) rfl (by rfl) (fun wq hwq => run_load_blk 45 (.tmp 7) rfl r2.heap.size _ c2 rfl (HX24.out.kp0 hwq) _ Try.underlying45 rfl HC2.out.2.2.1) rfl ?_; simp only [List.setIfInBounds_toArray, List.set_cons_zero, List.set_cons_succ])
    | (refine pw_quiet (v := .agg c3.toArray) rfl (by rfl) (fun wq hwq => run_load_blk 45 (.tmp 9) rfl r3.heap.size _ c3 rfl (HX34.out.kp0 hwq) _ Try.underlying45 rfl HC3.out.2.2.1) rfl ?_; simp only [List.setIfInBounds_toArray, List.set_cons_zero, List.set_cons_succ])
    | (refine pw_quiet (v := .agg c4.toArray) rfl (by rfl) (fun wq hwq => run_load_blk 45 (.tmp 11) rfl r4.heap.size _ c4 rfl (HX44.out.kp0 hwq) _ Try.underlying45 rfl HC4.out.2.2.1) rfl ?_; simp only [List.setIfInBounds_toArray, List.set_cons_zero, List.set_cons_succ])
    | (refine pw_quiet (v := ?_) rfl (by rfl) (fun wq hwq => ?_) rfl ?_; rotate_left 1; (focus (go_simp; try (with_reducible rfl); done)); simp only [List.setIfInBounds_toArray, List.set_cons_zero, List.set_cons_succ])
    | (refine pw_skip rfl (by rfl) rfl ?_; simp only [List.setIfInBounds_toArray, List.set_cons_zero, List.set_cons_succ])
    | (refine pw_skipE rfl (by rfl) rfl ?_; simp only [List.setIfInBounds_toArray, List.set_cons_zero, List.set_cons_succ]))
  refine pw_eff rfl (by rfl) (fun K hK => ?_)
  go_simp
  refine (HF.out.odd c4 k _ HC4.out).mono ?_
  rw [← HOD]
  rintro e x23 ⟨rfl, hk23⟩
  simp only []
  have HS23 : Hid (Kp0 v4 x23) := Lib.hid (HS22.out.tr hk23)
  clear hk23
  refine hK (fun w' : World => Kp0 v4 w') _ _ (fun x h => h) HS23.out ?_
  clear hK K
  repeat (first
    | (refine pw_quiet (v := .agg c1.toArray) rfl (by rfl) (fun wq hwq => run_load_blk 45 (.tmp 5) rfl r1.heap.size _ c1 rfl (HX14.out.kp0 hwq) _ Try.underlying45 rfl HC1.out.2.2.1) rfl ?_; simp only [List.setIfInBounds_toArray, List.set_cons_zero, List.set_cons_succ])
    | (refine pw_quiet (v := .agg c2.toArray) rfl (by rfl) (fun wq hwq => run_load_blk 45 (.tmp 7) rfl r2.heap.size _ c2 rfl (HX24.out.kp0 hwq) _ Try.underlying45 rfl HC2.out.2.2.1) rfl ?_; simp only [List.setIfInBounds_toArray, List.set_cons_zero, List.set_cons_succ])
    | (refine pw_quiet (v := .agg c3.toArray) rfl (by rfl) (fun wq hwq => run_load_blk 45 (.tmp 9) rfl r3.heap.size _ c3 rfl (HX34.out.kp0 hwq) _ Try.underlying45 rfl HC3.out.2.2.1) rfl ?_; simp only [List.setIfInBounds_toArray, List.set_cons_zero, List.set_cons_succ])
    | (refine pw_quiet (v := .agg c4.toArray) rfl (by rfl) (fun wq hwq => run_load_blk 45 (.tmp 11) rfl r4.heap.size _ c4 rfl (HX44.out.kp0 hwq) _ Try.underlying45 rfl HC4.out.2.2.1) rfl ?_; simp only [List.setIfInBounds_toArray, List.set_cons_zero, List.set_cons_succ])
    | (refine pw_quiet (v := ?_) rfl (by rfl) (fun wq hwq => ?_) rfl ?_; rotate_left 1; (focus (go_simp; try (with_reducible rfl); done)); simp only [List.setIfInBounds_toArray, List.set_cons_zero, List.set_cons_succ])
    | (refine pw_skip rfl (by rfl) rfl ?_; simp only [List.setIfInBounds_toArray, List.set_cons_zero, List.set_cons_succ])
    | (refine pw_skipE rfl (by rfl) rfl ?_; simp only [List.setIfInBounds_toArray, List.set_cons_zero, List.set_cons_succ]))
  refine pw_done ?_
  go_wp2
  all_goals go_ret
  all_goals exact ⟨by simp, HW4.out.tr HS23.out⟩
end Go.Proofs.Ytjfphmmhikamaaa
