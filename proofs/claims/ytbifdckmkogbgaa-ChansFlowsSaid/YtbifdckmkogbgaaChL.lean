/- Package chans: what is heard is heeded. -/
import Derived.Test.YtbifdckmkogbgaaChK
namespace Go.Proofs.Ytbifdckmkogbgaa
open Go Go.RowKit
structure TakeOk (c : Ch) : Prop where
  nu : c.nu < 4294967296
  wi : c.wi ≤ 2147483647
  mo : c.mo ≤ 2147483647
  mo1 : c.st = 2 → 1 ≤ c.mo
  wa : c.wa.length ≤ 30000000
  out : c.out.length + c.wa.length ≤ 79000000
  ca : c.ca.length ≤ 29000000
  ro : c.ro ≤ 2147483647
set_option maxRecDepth 20000 in
set_option maxHeartbeats 4000000 in
theorem heed_any (B b : Nat) (F : Nat → Prop) (c : Ch) (m : Msg) (t : ByteArray) (w : World) (h0 : Cm B w b F c) (ht : t.toList = m.text) (hm : MsgOk m) (hkn : known m.kind = true) (hh : hearsS c m = true) (hok : TakeOk c) :
    Calls Try.prog 34 #[.pointer (some ⟨b, 0, none⟩), .agg (cellsM m t).toArray] w (DoneP B b F w (heedS c m)) := by
  obtain ⟨vw, vc, vo, rows, h⟩ := id h0
  obtain ⟨k, tg, fr, win, most, text, ask, runs⟩ := m
  unfold MsgOk at hm
  simp only [] at ht hm hkn
  show Calls Try.prog 34 #[.pointer (some ⟨b, 0, none⟩), .agg #[.int .u8 (k : Int), .int .u32 (tg : Int), .int .u32 (fr : Int), .int .u32 (win : Int), .int .u32 (most : Int), .string t, .bool ask, .bool runs]] w _
  have HA := Lib.hid (fun (o : Obj) => h.kp0 ((Kp.refl _ w).alloc o))
  have HC0 := Lib.hid (fun (o : Obj) => h0.kp0 ((Kp.refl _ w).alloc o))
  have HFF := Lib.hid (fun i hi => (h.fB i hi).2)
  have HM := Lib.hid hm
  have HT := Lib.hid ht
  have HOK := Lib.hid hok
  have HH := Lib.hid hh
  have hbn : ¬ b = w.heap.size := by have := h.lt; omega
  have hbn2 : ¬ w.heap.size = b := by have := h.lt; omega
  clear h h0 hm ht hok hh
  by_cases h90 : k = 90
  · subst h90
    have HE : Hid (heedS c ⟨90, tg, fr, win, most, text, ask, runs⟩ = admitS c ⟨90, tg, fr, win, most, text, ask, runs⟩) := Lib.hid rfl
    rw [HE.out]
    clear hkn
    go_enter Try.func34, Try.ntmps34
    go_wp2_with fail
    refine (admit_any B b F c ⟨90, tg, fr, win, most, text, ask, runs⟩ t _ (HC0.out _) HT.out HM.out (by have := HOK.out.out; omega)).mono ?_
    rintro e w1 ⟨rfl, h1⟩
    have H1 := Lib.hid (CmP.al h1)
    clear h1
    go_wp2
    go_end0
    exact ⟨rfl, H1.out⟩
  have e90 : ((k : Int) == 90) = false := by rw [beq_eq_false_iff_ne]; omega
  by_cases h91 : k = 91
  · subst h91
    have HE : Hid (heedS c ⟨91, tg, fr, win, most, text, ask, runs⟩ = sayS (openS c ⟨91, tg, fr, win, most, text, ask, runs⟩) (requestB fr)) := Lib.hid rfl
    rw [HE.out]
    clear hkn h90
    go_enter Try.func34, Try.ntmps34
    go_wp2_with fail
    refine (open_any B b F c ⟨91, tg, fr, win, most, text, ask, runs⟩ t _ (HC0.out _) HM.out.2.1 HM.out.2.2.1).mono ?_
    rintro e w1 ⟨rfl, F1, hC1, hF1, hK1⟩
    obtain ⟨_, _, _, _, hV1⟩ := id hC1
    have hd3 : w1.cell? ⟨b, 3, none⟩ = some (.int .u32 (fr : Int)) := hV1.c3
    have HC1 := Lib.hid hC1
    have HF1 := Lib.hid hF1
    have HK1 := Lib.hid hK1
    clear hC1 hF1 hK1 hV1
    go_wp2_with fail
    refine (request_any _ fr _ rfl HM.out.1).mono ?_
    rintro e w2 ⟨v2, rfl, ho2, hk2⟩
    have HO2 := Lib.hid ho2
    have HK2 := Lib.hid hk2
    clear ho2 hk2 hd3
    go_wp2_with fail
    refine (say_own B b F1 _ v2 _ _ _ HC1.out HK2.out HO2.out (by have := HOK.out.out; show c.out.length ≤ _; omega)).mono ?_
    rintro e w3 ⟨rfl, h3⟩
    have H3 := Lib.hid (CmP.al (CmP.trans HF1.out HK1.out h3))
    clear h3
    go_wp2
    go_end0
    exact ⟨rfl, H3.out⟩
  have e91 : ((k : Int) == 91) = false := by rw [beq_eq_false_iff_ne]; omega
  by_cases h92 : k = 92
  · subst h92
    have HF := Lib.hid (fun (o : Obj) => (HA.out o).set 1 (.int .i64 3) { c with st := 3 } rfl rfl rfl rfl)
    have HE : Hid (heedS c ⟨92, tg, fr, win, most, text, ask, runs⟩ = { c with st := 3 }) := Lib.hid rfl
    rw [HE.out]
    have hc := fun o => (HA.out o).c1
    have hf := fun o => (HA.out o).fz 1
    clear hkn h90 h91
    go_enter Try.func34, Try.ntmps34
    go_wp2
    go_end0
    exact ⟨rfl, CmP.al ⟨F, (HF.out _).1.cm, fun _ h => .inl h, (HF.out _).2⟩⟩
  have e92 : ((k : Int) == 92) = false := by rw [beq_eq_false_iff_ne]; omega
  have HST : Hid (c.st = 2 ∧ hearsO c ⟨k, tg, fr, win, most, text, ask, runs⟩ = true) := Lib.hid (by
    have h1 := HH.out
    unfold hearsS at h1
    rw [if_neg h90, if_neg h91, if_neg h92] at h1
    simp only [Bool.and_eq_true, decide_eq_true_eq] at h1
    exact ⟨h1.1.1, h1.2⟩)
  by_cases h96 : k = 96
  · subst h96
    have HF := Lib.hid (fun (o : Obj) => (HA.out o).set 10 (.bool true) { c with en := true } rfl rfl rfl rfl)
    have HE : Hid (heedS c ⟨96, tg, fr, win, most, text, ask, runs⟩ = { c with en := true }) := Lib.hid rfl
    rw [HE.out]
    have hc := fun o => (HA.out o).c10
    have hf := fun o => (HA.out o).fz 10
    clear hkn h90 h91 h92
    go_enter Try.func34, Try.ntmps34
    go_wp2
    go_end0
    exact ⟨rfl, CmP.al ⟨F, (HF.out _).1.cm, fun _ h => .inl h, (HF.out _).2⟩⟩
  have e96 : ((k : Int) == 96) = false := by rw [beq_eq_false_iff_ne]; omega
  by_cases h99 : k = 99
  · subst h99
    have HF := Lib.hid (fun (o : Obj) => (HA.out o).set 2 (.bool true) { c with rd := true } rfl rfl rfl rfl)
    have HE : Hid (heedS c ⟨99, tg, fr, win, most, text, ask, runs⟩ = { c with rd := true }) := Lib.hid rfl
    rw [HE.out]
    have hc := fun o => (HA.out o).c2
    have hf := fun o => (HA.out o).fz 2
    clear hkn h90 h91 h92 h96
    go_enter Try.func34, Try.ntmps34
    go_wp2
    go_end0
    exact ⟨rfl, CmP.al ⟨F, (HF.out _).1.cm, fun _ h => .inl h, (HF.out _).2⟩⟩
  have e99 : ((k : Int) == 99) = false := by rw [beq_eq_false_iff_ne]; omega
  by_cases h98 : k = 98
  · subst h98
    have HE : Hid (heedS c ⟨98, tg, fr, win, most, text, ask, runs⟩ = answerS c ⟨98, tg, fr, win, most, text, ask, runs⟩) := Lib.hid rfl
    rw [HE.out]
    clear hkn h90 h91 h92 h96 h99
    go_enter Try.func34, Try.ntmps34
    go_wp2_with fail
    refine (answer_any B b F c ⟨98, tg, fr, win, most, text, ask, runs⟩ t _ (HC0.out _) HOK.out.nu (by have := HOK.out.out; omega)).mono ?_
    rintro e w1 ⟨rfl, h1⟩
    have H1 := Lib.hid (CmP.al h1)
    clear h1
    go_wp2
    go_end0
    exact ⟨rfl, H1.out⟩
  have e98 : ((k : Int) == 98) = false := by rw [beq_eq_false_iff_ne]; omega
  by_cases h97 : k = 97
  · subst h97
    have HE : Hid (heedS c ⟨97, tg, fr, win, most, text, ask, runs⟩ = { closeS c with st := 3 }) := Lib.hid rfl
    rw [HE.out]
    clear hkn h90 h91 h92 h96 h99 h98
    go_enter Try.func34, Try.ntmps34
    go_wp2_with fail
    refine (close_any B b F c _ (HC0.out _) HOK.out.nu (by have := HOK.out.out; omega)).mono ?_
    rintro e w1 ⟨rfl, F1, ⟨_, _, _, _, hV1⟩, hF1, hK1⟩
    have hc := hV1.c1
    have hf := hV1.fz 1
    have H2 := hV1.set 1 (.int .i64 3) { closeS c with st := 3 } rfl rfl rfl rfl
    have H3 := Lib.hid (CmP.al (CmP.trans hF1 hK1 (⟨F1, H2.1.cm, fun _ h => .inl h, H2.2⟩ : CmP B b F1 w1 _ _)))
    clear hF1 hK1 hV1 H2
    go_wp2
    go_end0
    exact ⟨rfl, H3.out⟩
  have e97 : ((k : Int) == 97) = false := by rw [beq_eq_false_iff_ne]; omega
  by_cases h100 : k = 100
  · subst h100
    have HE : Hid (heedS c ⟨100, tg, fr, win, most, text, ask, runs⟩ = closeS c) := Lib.hid rfl
    rw [HE.out]
    clear hkn h90 h91 h92 h96 h99 h98 h97
    go_enter Try.func34, Try.ntmps34
    go_wp2_with fail
    refine (close_any B b F c _ (HC0.out _) HOK.out.nu (by have := HOK.out.out; omega)).mono ?_
    rintro e w1 ⟨rfl, h1⟩
    have H1 := Lib.hid (CmP.al h1)
    clear h1
    go_wp2
    go_end0
    exact ⟨rfl, H1.out⟩
  have e100 : ((k : Int) == 100) = false := by rw [beq_eq_false_iff_ne]; omega
  by_cases h93 : k = 93
  · subst h93
    have hle : win ≤ 2147483647 - c.wi := by
      have h1 := HST.out.2
      unfold hearsO at h1
      simpa using h1
    obtain ⟨wi, hwi⟩ : ∃ x, x = c.wi := ⟨_, rfl⟩
    obtain ⟨s, hs⟩ : ∃ s, s = wi + win := ⟨_, rfl⟩
    have hwib := HOK.out.wi
    have hc4 := fun o => (HA.out o).c4
    simp only [← hwi] at hc4 hle hwib
    have hf4 := fun o => (HA.out o).fz 4
    have hsum : (wi : Int) + (win : Int) = (s : Int) := by omega
    have hsw : IntKind.i64.wrap (s : Int) = (s : Int) := by rw [IntKind.wrap_i64]; omega
    have hsv : IntKind.i64.wrap (win : Int) = (win : Int) := by have := HM.out.2.1; rw [IntKind.wrap_i64]; omega
    obtain ⟨wA, hwA⟩ : ∃ wA, wA = (w.alloc (.cells #[.int .u8 93, .int .u32 (tg : Int), .int .u32 (fr : Int), .int .u32 (win : Int), .int .u32 (most : Int), .string t, .bool ask, .bool runs] 58)) := ⟨_, rfl⟩
    have hd4 : wA.drew.cell? ⟨b, 4, none⟩ = some (.int .i64 (wi : Int)) := by rw [hwA]; exact hc4 _
    have hd3 : wA.drew.cell? ⟨w.heap.size, 3, none⟩ = some (.int .u32 (win : Int)) := by rw [hwA]; exact (blk0 w 58 (cellsM ⟨93, tg, fr, win, most, [], ask, runs⟩ t)).cellV 3 rfl
    have hdf : wA.drew.frozen? ⟨b, 4, none⟩ = false := by rw [hwA]; exact hf4 _
    have HFI := Lib.hid (((HA.out (.cells #[.int .u8 93, .int .u32 (tg : Int), .int .u32 (fr : Int), .int .u32 (win : Int), .int .u32 (most : Int), .string t, .bool ask, .bool runs] 58)).kp0 (Kp.refl _ _).drew).set 4 (.int .i64 (s : Int)) { c with wi := c.wi + win } (by rw [hs, hwi]; rfl) rfl rfl rfl)
    have HKA : Hid (Kp0 w wA.drew) := Lib.hid (by rw [hwA]; exact ((Kp.refl _ w).alloc _).drew)
    rw [← hwA] at HFI
    have HFO : Hid (FlowOk { c with wi := c.wi + win }) := Lib.hid ⟨HOK.out.mo1 HST.out.1, HOK.out.mo, by show c.wi + win ≤ _; omega, HOK.out.nu, HOK.out.wa, by show c.out.length + c.wa.length ≤ _; have := HOK.out.out; omega⟩
    have HE : Hid (heedS c ⟨93, tg, fr, win, most, text, ask, runs⟩ = flowS { c with wi := c.wi + win }) := Lib.hid rfl
    rw [HE.out]
    have HWA := Lib.hid hwA
    clear hkn h90 h91 h92 h96 h99 h98 h97 h100 hwi hs hle hwib hc4 hf4 hwA
    go_enter Try.func34, Try.ntmps34
    go_upto_region 10 with (fail)
    rw [← HWA.out]
    refine wp_region_px 10 [10] (fun w' : World => w' = wA.drew) (.quiet 0 (.quiet 1 (.quiet 2 (.quiet 3 (.quiet 4 (.quiet 5 (.quiet 6 (.quiet 7 (.quiet 8 (.quiet 9 (.wall 10 .done))))))))))) (by kernel_rfl) (by kernel_rfl) (by kernel_rfl) (by kernel_rfl) (fun _ d _ _ _ h => by cases d <;> exact h) rfl ?_
    generalize wA.drew = wd at HFI HKA hd4 hd3 hdf ⊢
    iterate 10 (refine px_quiet (v := ?_) rfl (by rfl) (fun wq hwq => ?_) rfl ?_; rotate_left 1; (focus (rw [hwq]; clear hwq wq; go_simp; try (with_reducible rfl); done)); try simp only [List.setIfInBounds_toArray, List.set_cons_zero, List.set_cons_succ])
    refine px_wall rfl (by rfl) (fun K hK => ?_)
    go_simp
    refine hK (fun _ => True) _ _ trivial ?_
    clear hK K
    refine px_done ?_
    go_wp2_with fail
    generalize (wd.setCell ⟨b, 4, none⟩ (.int .i64 (s : Int))) = w2 at HFI ⊢
    refine (flow_any B b F _ _ HFI.out.1.cm HFO.out).mono ?_
    rintro e w3 ⟨rfl, h3⟩
    have H3 := Lib.hid (CmP.trans (fun _ h => .inl h) ((HKA.out.nil F).tr HFI.out.2) h3)
    clear h3
    go_wp2
    go_end0
    exact ⟨rfl, H3.out⟩
  have e93 : ((k : Int) == 93) = false := by rw [beq_eq_false_iff_ne]; omega
  have h94 : k = 94 := by
    unfold known at hkn
    simp only [Bool.or_eq_true, beq_iff_eq] at hkn
    omega
  subst h94
  have hle : text.length ≤ c.ro := by
    have h1 := HST.out.2
    unfold hearsO at h1
    simp at h1
    omega
  obtain ⟨ro, hro⟩ : ∃ x, x = c.ro := ⟨_, rfl⟩
  obtain ⟨s, hs⟩ : ∃ s, s = ro - text.length := ⟨_, rfl⟩
  have hrob := HOK.out.ro
  have hc6 := fun o => (HA.out o).c6
  simp only [← hro] at hc6 hle hrob
  have hts : t.size = text.length := by rw [← size_toList, HT.out]
  have hsum : (ro : Int) - (t.size : Int) = (s : Int) := by omega
  have hsw : IntKind.i64.wrap (s : Int) = (s : Int) := by rw [IntKind.wrap_i64]; omega
  obtain ⟨wA, hwA⟩ : ∃ wA, wA = (w.alloc (.cells #[.int .u8 94, .int .u32 (tg : Int), .int .u32 (fr : Int), .int .u32 (win : Int), .int .u32 (most : Int), .string t, .bool ask, .bool runs] 58)) := ⟨_, rfl⟩
  have hd6 : wA.drew.cell? ⟨b, 6, none⟩ = some (.int .i64 (ro : Int)) := by rw [hwA]; exact hc6 _
  have hd5 : wA.drew.cell? ⟨w.heap.size, 5, none⟩ = some (.string t) := by rw [hwA]; exact (blk0 w 58 (cellsM ⟨94, tg, fr, win, most, [], ask, runs⟩ t)).cellV 5 rfl
  have hdf : wA.drew.frozen? ⟨b, 6, none⟩ = false := by rw [hwA]; exact (HA.out _).fz 6
  have HFI := Lib.hid (((HA.out (.cells #[.int .u8 94, .int .u32 (tg : Int), .int .u32 (fr : Int), .int .u32 (win : Int), .int .u32 (most : Int), .string t, .bool ask, .bool runs] 58)).kp0 (Kp.refl _ _).drew).set 6 (.int .i64 (s : Int)) { c with ro := c.ro - text.length } (by rw [hs, hro]; rfl) rfl rfl rfl)
  have HKA : Hid (Kp0 w wA.drew) := Lib.hid (by rw [hwA]; exact ((Kp.refl _ w).alloc _).drew)
  rw [← hwA] at HFI
  have HE : Hid (heedS c ⟨94, tg, fr, win, most, text, ask, runs⟩ = { c with ro := c.ro - text.length, ca := c.ca ++ text }) := Lib.hid rfl
  rw [HE.out]
  have HWA := Lib.hid hwA
  have HLB : Hid (c.ca.length + t.size ≤ 30000000) := Lib.hid (by have h1 := HOK.out.ca; have h2 := HM.out.2.2.2; omega)
  have HTS := Lib.hid hts
  clear hkn h90 h91 h92 h96 h99 h98 h97 h100 hro hs hle hrob hc6 hwA h93 hts
  go_enter Try.func34, Try.ntmps34
  go_upto_region 13 with (fail)
  rw [← HWA.out]
  refine wp_region_px 10 [10] (fun w' : World => w' = wA.drew) (.quiet 0 (.quiet 1 (.quiet 2 (.quiet 3 (.quiet 4 (.quiet 5 (.quiet 6 (.quiet 7 (.quiet 8 (.quiet 9 (.wall 10 .done))))))))))) (by kernel_rfl) (by kernel_rfl) (by kernel_rfl) (by kernel_rfl) (fun _ d _ _ _ h => by cases d <;> exact h) rfl ?_
  generalize wA.drew = wd at HFI HKA hd6 hd5 hdf ⊢
  iterate 10 (refine px_quiet (v := ?_) rfl (by rfl) (fun wq hwq => ?_) rfl ?_; rotate_left 1; (focus (rw [hwq]; clear hwq wq; go_simp; try (with_reducible rfl); done)); try simp only [List.setIfInBounds_toArray, List.set_cons_zero, List.set_cons_succ])
  refine px_wall rfl (by rfl) (fun K hK => ?_)
  go_simp
  refine hK (fun _ => True) _ _ trivial ?_
  clear hK K
  refine px_done ?_
  go_upto_region 14 with (fail)
  have hd5' := HFI.out.2.cell hd5 (fun hF => by have h1 := HFF.out _ hF; have h2 : w.heap.size < w.heap.size := h1; omega)
  generalize (wd.setCell ⟨b, 6, none⟩ (.int .i64 (s : Int))) = w2 at HFI hd5' ⊢
  have HV2 := Lib.hid (HFI.out.1.kp0 (Kp.refl _ w2).drew)
  have HK2 : Hid (Kp F w w2.drew) := Lib.hid (((HKA.out.nil F).tr HFI.out.2).tr ((Kp.refl (fun _ => False) w2).drew.nil F))
  have hd5 : w2.drew.cell? ⟨w.heap.size, 5, none⟩ = some (.string t) := hd5'
  clear hd5' HFI hd6 hdf hsum hsw
  refine wp_region_px 10 [10] (fun w' : World => Kp (fun g => vc.ownBlock = some g) w2.drew w') (.quiet 0 (.quiet 1 (.quiet 2 (.quiet 3 (.quiet 4 (.quiet 5 (.quiet 6 (.eff 7 (.quiet 8 (.quiet 9 (.wall 10 .done))))))))))) (by kernel_rfl) (by kernel_rfl) (by kernel_rfl) (by kernel_rfl) (fun _ d _ _ _ h => by cases d <;> exact h) (Kp.refl _ _) ?_
  generalize w2.drew = wx at HV2 HK2 hd5 ⊢
  have H5 := Lib.hid hd5
  clear hd5
  obtain ⟨ao, cap, hvc, _, _, _⟩ := HV2.out.oc.rd.shapeB
  have HVC := Lib.hid hvc
  clear hvc
  iterate 7 (refine px_quiet (v := ?_) rfl (by rfl) (fun wq hwq => ?_) rfl ?_; rotate_left 1; (focus (have q8 := hwq.cell HV2.out.c8 (fun e => (HV2.out.ac b e).2.1 rfl); have q5 := hwq.cell H5.out (fun e => by have h1 := HFF.out _ (HV2.out.ac _ e).1; have h2 : w.heap.size < w.heap.size := h1; omega); rw [HVC.out] at q8; go_simp; try (with_reducible rfl); done)); try simp only [List.setIfInBounds_toArray, List.set_cons_zero, List.set_cons_succ])
  refine px_eff rfl (by rfl) (fun K hK => ?_)
  refine wp_append_str_at (.tmp 58) (.tmp 60) 33 9 rfl Try.underlying33 Try.underlying9 (infoB1 wx) t rfl rfl (by have := HV2.out.oc; rw [HVC.out] at this; exact this) (by rw [bys_len]; show c.ca.length + t.size ≤ _; have := HLB.out; omega) (Nat.zero_le _) (fun v1 w3 ho hk hb => ?_)
  rw [← HVC.out] at hk hb
  rw [← bys_app, HT.out] at ho
  have HFI := Lib.hid (HV2.out.setC hk ho hb)
  obtain ⟨a1, n1, k1, rfl⟩ := (Ow.of_own ho).sl
  have hd8 := hk.cell HV2.out.c8 (fun e => (HV2.out.ac b e).2.1 rfl)
  have hf8 := hk.frozen' HV2.out.lt (HV2.out.fz 8) (fun e => (HV2.out.ac b e).2.1 rfl)
  have HKK := Lib.hid hk
  clear ho hk hb
  refine hK (fun w' : World => w' = w3) _ _ (fun x e => by subst e; exact HKK.out) rfl ?_
  clear hK K
  try simp only [Act.put, List.setIfInBounds_toArray, List.set_cons_zero, List.set_cons_succ]
  iterate 2 (refine px_quiet (v := ?_) rfl (by rfl) (fun wq hwq => ?_) rfl ?_; rotate_left 1; (focus (rw [hwq]; clear hwq wq; go_simp; try (with_reducible rfl); done)); try simp only [List.setIfInBounds_toArray, List.set_cons_zero, List.set_cons_succ])
  refine px_wall rfl (by rfl) (fun K hK => ?_)
  go_simp
  refine hK (fun _ => True) _ _ trivial ?_
  clear hK K
  refine px_done ?_
  go_wp2
  go_end0
  exact ⟨rfl, CmP.trans (fun _ h => .inl h) HK2.out HFI.out⟩
end Go.Proofs.Ytbifdckmkogbgaa
