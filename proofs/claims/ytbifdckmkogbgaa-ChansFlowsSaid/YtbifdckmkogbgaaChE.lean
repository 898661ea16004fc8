/- Package chans: begin, send, receive, close. -/
import Derived.Test.YtbifdckmkogbgaaChD
namespace Go.Proofs.Ytbifdckmkogbgaa
open Go Go.RowKit
def ErrP (B b : Nat) (F : Nat → Prop) (w : World) (r : Ch × Nat) (e : Ending) (w' : World) : Prop := e = .returned (.int .i64 (r.2 : Nat)) ∧ CmP B b F w r.1 w'
set_option maxRecDepth 20000 in
set_option maxHeartbeats 1000000 in
theorem begin_any (B b : Nat) (F : Nat → Prop) (c : Ch) (w : World) (h : Cm B w b F c) (hn : c.out.length ≤ 90000000) :
    Calls Try.prog 11 #[.pointer (some ⟨b, 0, none⟩)] w (ErrP B b F w (beginS c)) := by
  obtain ⟨vw, vc, vo, rows, h⟩ := h
  have hc0 := h.c0
  have hc1 := h.c1
  obtain ⟨sv, hsv⟩ : ∃ sv, sv = c.sv := ⟨_, rfl⟩
  rw [← hsv] at hc0
  have HC := Lib.hid h.cm
  have HN := Lib.hid hn
  by_cases h0 : c.st = 0
  · have hb : ((c.st : Int) != 0) = false := by rw [bne_eq_false_iff_eq]; omega
    cases sv with
    | true =>
      have HE : Hid (beginS c = (c, 8)) := Lib.hid (by unfold beginS; rw [← hsv]; rfl)
      clear h hn h0 hsv
      rw [HE.out]
      go_enter Try.func11, Try.ntmps11
      go_wp2
      all_goals go_ret
      all_goals exact ⟨rfl, CmP.refl HC.out⟩
    | false =>
      have HE : Hid (beginS c = (sayS { c with st := 1 } wishB, 0)) := Lib.hid (by unfold beginS; rw [← hsv, h0]; rfl)
      have h1 := h.set 1 (.int .i64 1) { c with st := 1 } rfl rfl rfl rfl
      have H1 := Lib.hid h1
      have hf := h.fz 1
      clear h hn h0 hsv h1
      rw [HE.out]
      go_enter Try.func11, Try.ntmps11
      go_wp2_with fail
      generalize (w.setCell ⟨b, 1, none⟩ (.int .i64 1)) = w1 at H1 ⊢
      clear hc0 hc1 hf hb
      refine (wish_any _).mono ?_
      rintro e w3 ⟨v3, rfl, ho3, hk3⟩
      have HO3 := Lib.hid ho3
      have HK3 := Lib.hid hk3
      clear ho3 hk3
      go_wp2_with fail
      refine (say_own B b F _ v3 _ _ _ H1.out.1.cm HK3.out HO3.out (by have := HN.out; show c.out.length ≤ _; omega)).mono ?_
      rintro e w4 ⟨rfl, h4⟩
      have H4 := Lib.hid h4
      clear h4
      go_wp2
      go_ret
      exact ⟨rfl, CmP.trans (fun i h => .inl h) H1.out.2 H4.out⟩
  · have hb : ((c.st : Int) != 0) = true := by rw [bne_iff_ne]; omega
    have HE : Hid (beginS c = (c, 8)) := Lib.hid (by unfold beginS; rw [decide_eq_true h0, Bool.or_true]; rfl)
    clear h hn h0
    rw [HE.out]
    cases sv with
    | true =>
      clear hsv
      go_enter Try.func11, Try.ntmps11
      go_wp2
      all_goals go_ret
      all_goals exact ⟨rfl, CmP.refl HC.out⟩
    | false =>
      clear hsv
      go_enter Try.func11, Try.ntmps11
      go_wp2
      all_goals go_ret
      all_goals exact ⟨rfl, CmP.refl HC.out⟩
set_option maxRecDepth 20000 in
set_option maxHeartbeats 1000000 in
theorem end_any (B b : Nat) (F : Nat → Prop) (c : Ch) (w : World) (h : Cm B w b F c) (hu : c.nu < 4294967296) (hn : c.out.length ≤ 90000000) :
    Calls Try.prog 25 #[.pointer (some ⟨b, 0, none⟩)] w (ErrP B b F w (endS c)) := by
  obtain ⟨vw, vc, vo, rows, h⟩ := h
  have hc11 := h.c11
  have hc1 := h.c1
  obtain ⟨cl, hcl⟩ : ∃ cl, cl = c.cl := ⟨_, rfl⟩
  rw [← hcl] at hc11
  have HC := Lib.hid h.cm
  have HN := Lib.hid hn
  have HU := Lib.hid hu
  by_cases h0 : c.st = 2
  · have hb : ((c.st : Int) != 2) = false := by rw [bne_eq_false_iff_eq]; omega
    cases cl with
    | true =>
      have HE : Hid (endS c = (c, 8)) := Lib.hid (by unfold endS; rw [← hcl]; simp)
      clear h hn h0 hcl hu
      rw [HE.out]
      go_enter Try.func25, Try.ntmps25
      go_wp2
      all_goals go_ret
      all_goals exact ⟨rfl, CmP.refl HC.out⟩
    | false =>
      have HE : Hid (endS c = (closeS c, 0)) := Lib.hid (by unfold endS; rw [← hcl, h0]; rfl)
      clear h hn h0 hcl hu
      rw [HE.out]
      go_enter Try.func25, Try.ntmps25
      go_wp2_with fail
      refine (close_any B b F c _ HC.out HU.out HN.out).mono ?_
      rintro e w4 ⟨rfl, h4⟩
      have H4 := Lib.hid h4
      clear h4 hc1 hc11
      go_wp2
      go_ret
      exact ⟨rfl, H4.out⟩
  · have hb : ((c.st : Int) != 2) = true := by rw [bne_iff_ne]; omega
    have HE : Hid (endS c = (c, 8)) := Lib.hid (by unfold endS; rw [decide_eq_true h0, Bool.true_or]; rfl)
    clear h hn h0 hcl hu
    rw [HE.out]
    go_enter Try.func25, Try.ntmps25
    go_wp2
    all_goals go_ret
    all_goals exact ⟨rfl, CmP.refl HC.out⟩
structure SendOk (c : Ch) (l : List UInt8) : Prop where
  nu : c.nu < 4294967296
  wi : c.wi ≤ 2147483647
  mo : c.mo ≤ 2147483647
  mo1 : c.st = 2 → 1 ≤ c.mo
  wa : c.wa.length + l.length ≤ 30000000
  out : c.out.length + c.wa.length + l.length ≤ 80000000
set_option maxRecDepth 20000 in
set_option maxHeartbeats 2000000 in
theorem send_any (B b : Nat) (F : Nat → Prop) (c : Ch) (v : Value) (l : List UInt8) (w : World) (h : Cm B w b F c) (hv : Rd w v (bys l)) (hok : SendOk c l) :
    Calls Try.prog 14 #[.pointer (some ⟨b, 0, none⟩), v] w (ErrP B b F w (sendS c l)) := by
  obtain ⟨vw, vc, vo, rows, h⟩ := h
  have hc11 := h.c11
  have hc1 := h.c1
  have hc2 := h.c2
  have hc7 := h.c7
  have hf7 := h.fz 7
  obtain ⟨cl, hcl⟩ : ∃ cl, cl = c.cl := ⟨_, rfl⟩
  obtain ⟨rd, hrd⟩ : ∃ rd, rd = c.rd := ⟨_, rfl⟩
  rw [← hcl] at hc11
  rw [← hrd] at hc2
  have HC := Lib.hid h.cm
  by_cases h0 : c.st = 2
  · have hb : ((c.st : Int) != 2) = false := by rw [bne_eq_false_iff_eq]; omega
    cases rd with
    | false =>
      have HE : Hid (sendS c l = (c, 8)) := Lib.hid (by unfold sendS; rw [← hrd]; simp)
      clear h h0 hcl hrd hv hok hc7 hf7
      rw [HE.out]
      go_enter Try.func14, Try.ntmps14
      go_wp2
      all_goals go_ret
      all_goals exact ⟨rfl, CmP.refl HC.out⟩
    | true =>
      cases cl with
      | true =>
        have HE : Hid (sendS c l = (c, 8)) := Lib.hid (by unfold sendS; rw [← hcl]; simp)
        clear h h0 hcl hrd hv hok hc7 hf7
        rw [HE.out]
        go_enter Try.func14, Try.ntmps14
        go_wp2
        all_goals go_ret
        all_goals exact ⟨rfl, CmP.refl HC.out⟩
      | false =>
        have HE : Hid (sendS c l = (flowS { c with wa := c.wa ++ l }, 0)) := Lib.hid (by unfold sendS; rw [← hcl, ← hrd, h0]; rfl)
        have HL : Hid ((bys c.wa).length + (bys l).length ≤ maxLen ∧ ((bys c.wa).length + (bys l).length) * 1 ≤ 140737488355328) := Lib.hid (by
          have := hok.wa
          rw [bys_len, bys_len, Nat.mul_one]; unfold maxLen; omega)
        have HFO : Hid (FlowOk { c with wa := c.wa ++ l }) := Lib.hid ⟨hok.mo1 h0, hok.mo, hok.wi, hok.nu, by show (c.wa ++ l).length ≤ _; rw [List.length_append]; exact hok.wa, by show c.out.length + (c.wa ++ l).length ≤ _; rw [List.length_append]; have := hok.out; omega⟩
        have H := Lib.hid h
        have HV := Lib.hid hv
        clear h h0 hcl hrd hv hok
        rw [HE.out]
        go_enter Try.func14, Try.ntmps14
        go_wp2_with (refine wl_append_ow (o := ⟨some 33, _, _, _, _, _⟩) rfl _ _ 33 rfl Try.underlying33 (infoB1 w) rfl rfl rfl H.out.ow HV.out (bys_one _) HL.out.1 HL.out.2 (Nat.zero_le _) ?_)
        intro v1 w1 ho hk hbk
        rw [← bys_app] at ho
        have HD := Lib.hid (H.out.setW hk ho hbk)
        obtain ⟨a1, n1, k1, rfl⟩ := ho.sl
        have hf1 : w1.frozen? ⟨b, 7, none⟩ = false := hk.frozen' H.out.lt hf7 (fun e => (H.out.aw b e).2 rfl)
        have hcx : w1.cell? ⟨b, 7, none⟩ = some vw := hk.cell hc7 (fun e => (H.out.aw b e).2 rfl)
        clear ho hk hbk hf7 hc7 hc1 hc2 hc11
        go_wp2_with fail
        generalize (w1.setCell ⟨b, 7, none⟩ (.slice a1 n1 k1)) = w2 at HD ⊢
        clear hf1 hcx
        obtain ⟨F2, hC2, hF2, hK2⟩ := HD.out
        refine (flow_any B b F2 _ _ hC2 HFO.out).mono ?_
        rintro e w4 ⟨rfl, h4⟩
        have H4 := Lib.hid (CmP.trans hF2 hK2 h4)
        clear h4 hC2 hF2 hK2
        go_wp2
        go_ret
        exact ⟨rfl, H4.out⟩
  · have hb : ((c.st : Int) != 2) = true := by rw [bne_iff_ne]; omega
    have HE : Hid (sendS c l = (c, 8)) := Lib.hid (by unfold sendS; rw [decide_eq_true h0, Bool.true_or, Bool.true_or]; rfl)
    clear h h0 hcl hrd hv hok hc7 hf7
    rw [HE.out]
    go_enter Try.func14, Try.ntmps14
    go_wp2
    all_goals go_ret
    all_goals exact ⟨rfl, CmP.refl HC.out⟩
/-- What came is handed over. -/
def RecvP (B b : Nat) (F : Nat → Prop) (w : World) (c : Ch) (e : Ending) (w' : World) : Prop :=
  ∃ v F', e = .returned v ∧ Rd w' v (bys c.ca) ∧ Cm B w' b F' (recvS c) ∧ (∀ i, F' i → F i ∨ w.heap.size ≤ i) ∧ (∀ g, v.ownBlock = some g → F g ∧ ¬ F' g) ∧ Kp F w w'
theorem CmV.takeC {B : Nat} {w : World} {b : Nat} {F : Nat → Prop} {vw vc vo : Value} {rows : List Value} {c : Ch} (h : CmV B w b F vw vc vo rows c) :
    CmV B (w.setCell ⟨b, 8, none⟩ (.slice none 0 0)) b (fun i => F i ∧ vc.ownBlock ≠ some i) vw (.slice none 0 0) vo rows { c with ca := [] } ∧ Rd (w.setCell ⟨b, 8, none⟩ (.slice none 0 0)) vc (bys c.ca) ∧ Kp F w (w.setCell ⟨b, 8, none⟩ (.slice none 0 0)) := by
  have hs : Kp (fun g => g = b) w (w.setCell ⟨b, 8, none⟩ (.slice none 0 0)) := (Kp.refl (fun g => g = b) w).setCell (p := ⟨b, 8, none⟩) (fun _ => rfl) _
  refine ⟨⟨h.blk.set' 8 _, ?_, Own.nil _ _ _, ?_, ?_, ?_, ?_, ?_, ?_, ?_, ?_⟩, h.oc.rd.keep hs (fun g hg _ => (h.ac g hg).2.1), hs.mono (fun i _ hi => by subst hi; exact h.fb)⟩
  · exact h.ow.keep hs (fun g hg _ _ => (h.aw g hg).2)
  · exact h.oo.keep hs (fun g hg _ _ => (h.ao g hg).2.1)
  · exact h.rr.keep hs (fun v hv g hg => (h.ar v hv g hg).2.1)
  · exact ⟨h.fb, fun e => (h.ac b e).2.1 rfl⟩
  · exact fun g hg => ⟨⟨(h.aw g hg).1, fun e => (h.ac g e).2.2 hg⟩, (h.aw g hg).2⟩
  · intro g hg; cases hg
  · exact fun g hg => ⟨⟨(h.ao g hg).1, (h.ao g hg).2.2.2⟩, (h.ao g hg).2.1, (h.ao g hg).2.2.1, (fun e => by cases e)⟩
  · exact fun r hr g hg => ⟨⟨(h.ar r hr g hg).1, (h.ar r hr g hg).2.2.2.1⟩, (h.ar r hr g hg).2.1, (h.ar r hr g hg).2.2.1, (fun e => by cases e), (h.ar r hr g hg).2.2.2.2⟩
  · exact fun i hi => ⟨(h.fB i hi.1).1, Nat.lt_of_lt_of_le (h.fB i hi.1).2 hs.size⟩
structure RecvOk (c : Ch) : Prop where
  nu : c.nu < 4294967296
  ro : c.ro ≤ 2147483647
  ca : c.ca.length ≤ 30000000
  out : c.out.length ≤ 80000000
theorem RecvP.idle {B : Nat} {w : World} {b : Nat} {F : Nat → Prop} {vw vc vo : Value} {rows : List Value} {c : Ch} (h : CmV B w b F vw vc vo rows c) (he : recvS c = { c with ca := [] }) : RecvP B b F w c (.returned vc) (w.setCell ⟨b, 8, none⟩ (.slice none 0 0)) := by
  obtain ⟨h1, h2, h3⟩ := h.takeC
  refine ⟨vc, fun i => F i ∧ vc.ownBlock ≠ some i, rfl, h2, by rw [he]; exact h1.cm, fun i hi => .inl hi.1, fun g hg => ⟨(h.ac g hg).1, fun hh => hh.2 hg⟩, h3⟩
set_option maxRecDepth 20000 in
set_option maxHeartbeats 2000000 in
theorem recv_any (B b : Nat) (F : Nat → Prop) (c : Ch) (w : World) (h : Cm B w b F c) (hok : RecvOk c) :
    Calls Try.prog 13 #[.pointer (some ⟨b, 0, none⟩)] w (RecvP B b F w c) := by
  obtain ⟨vw, vc, vo, rows, h⟩ := h
  have hc8 := h.c8
  have hf8 := h.fz 8
  have hc1 := h.takeC.1.c1
  have hc11 := h.takeC.1.c11
  obtain ⟨cl, hcl⟩ : ∃ cl, cl = c.cl := ⟨_, rfl⟩
  obtain ⟨ao, cap, hvc, _, _, _⟩ := h.oc.rd.shapeB
  obtain ⟨L, hL⟩ : ∃ L, L = c.ca.length := ⟨_, rfl⟩
  rw [← hL] at hvc
  subst hvc
  have hc11' : (w.setCell ⟨b, 8, none⟩ (.slice none 0 0)).cell? ⟨b, 11, none⟩ = some (.bool cl) := by rw [hcl]; exact hc11
  have hc1' : (w.setCell ⟨b, 8, none⟩ (.slice none 0 0)).cell? ⟨b, 1, none⟩ = some (.int .i64 (c.st : Int)) := hc1
  have HID : Hid (recvS c = { c with ca := [] } → RecvP B b F w c (.returned (.slice ao L cap)) (w.setCell ⟨b, 8, none⟩ (.slice none 0 0))) := Lib.hid (fun he => RecvP.idle h he)
  have HT := Lib.hid h.takeC
  have HAC := Lib.hid h.ac
  have HOK := Lib.hid hok
  have HFZ : Hid (∀ i, F i → i < w.heap.size) := Lib.hid (fun i hi => (h.fB i hi).2)
  clear h hc1 hc11 hok
  generalize hw1 : (w.setCell ⟨b, 8, none⟩ (.slice none 0 0)) = w1 at hc11' hc1' HID HT
  have HW1 := Lib.hid hw1
  clear hw1
  by_cases h0 : 0 < L
  · have h0i : (0 : Int) < L := by omega
    by_cases h2 : c.st = 2
    · have hb : ((c.st : Int) == 2) = true := by rw [beq_iff_eq]; omega
      cases cl with
      | true =>
        have HP := Lib.hid (HID.out (by unfold recvS; rw [← hcl]; simp))
        clear h0 h2 hcl hL
        go_enter Try.func13, Try.ntmps13
        go_upto_region 5 with (fail)
        rw [HW1.out]
        go_wp2
        all_goals go_ret
        all_goals exact HP.out
      | false =>
        have hne : c.ca ≠ [] := List.length_pos_iff.1 (by omega)
        have HE : Hid (recvS c = sayS { c with ca := [], ro := c.ro + c.ca.length } (adjustB c.nu c.ca.length)) := Lib.hid (by
          unfold recvS
          rw [if_pos (by rw [← hcl, h2]; simpa using hne)])
        have HL := Lib.hid hL
        have hc6 := HT.out.1.c6
        have hf6 := HT.out.1.fz 6
        have hc3 : (w1.setCell ⟨b, 6, none⟩ (.int .i64 ((c.ro : Int) + (L : Int)))).cell? ⟨b, 3, none⟩ = some (.int .u32 c.nu) := by
          have h1 := HT.out.1.set 6 (.int .i64 ((c.ro : Int) + (L : Int))) { c with ca := [], ro := c.ro + c.ca.length } (by rw [← hL]; rfl) rfl rfl rfl
          exact h1.1.c3
        have HS := Lib.hid (HT.out.1.set 6 (.int .i64 ((c.ro : Int) + (L : Int))) { c with ca := [], ro := c.ro + c.ca.length } (by rw [← hL]; rfl) rfl rfl rfl)
        have hro : (c.ro : Int) ≤ 2147483647 := by have := HOK.out.ro; omega
        have hLb : (L : Int) ≤ 30000000 := by have := HOK.out.ca; omega
        clear h0 h2 hcl hL hne
        go_enter Try.func13, Try.ntmps13
        go_upto_region 5 with (fail)
        rw [HW1.out]
        go_wp2_with fail
        generalize (w1.setCell ⟨b, 6, none⟩ (.int .i64 ((c.ro : Int) + (L : Int)))) = w2 at HS hc3 ⊢
        clear hc6 hf6 hc8 hf8
        refine (adjust_any _ _ c.nu c.ca.length _ rfl HOK.out.nu (by rw [HL.out]) (by have := HOK.out.ca; omega)).mono ?_
        rintro e w3 ⟨v3, rfl, ho3, hk3⟩
        have HO3 := Lib.hid ho3
        have HK3 := Lib.hid hk3
        clear ho3 hk3 hc3
        go_wp2_with fail
        refine (say_own B b _ _ v3 _ _ _ HS.out.1.cm HK3.out HO3.out (by have := HOK.out.out; show c.out.length ≤ _; omega)).mono ?_
        rintro e w4 ⟨rfl, F4, hC4, hF4, hK4⟩
        have HC4 := Lib.hid hC4
        have HK4 := Lib.hid hK4
        have HF4 := Lib.hid hF4
        clear hC4 hK4 hF4
        go_wp2
        go_ret
        have hsz1 := HT.out.2.2.size
        have hsz2 := HS.out.2.size
        refine ⟨_, F4, rfl, ?_, by rw [HE.out]; exact HC4.out, fun i hi => ?_, fun g hg => ⟨(HAC.out g hg).1, fun hh => ?_⟩, ?_⟩
        · exact (HT.out.2.1.keep HS.out.2 (fun g hg _ hh => hh.2 hg)).keep HK4.out (fun g hg _ hh => hh.2 hg)
        · exact (HF4.out i hi).elim (fun h => .inl h.1) (fun h => .inr (by omega))
        · exact (HF4.out g hh).elim (fun h => h.2 hg) (fun h => by have := HFZ.out g (HAC.out g hg).1; omega)
        · exact (HT.out.2.2.tr (HS.out.2.mono (fun i _ h => h.1))).tr (HK4.out.mono (fun i _ h => h.1))
    · have hb : ((c.st : Int) == 2) = false := by rw [beq_eq_false_iff_ne]; omega
      have HP := Lib.hid (HID.out (by unfold recvS; rw [decide_eq_false h2]; simp))
      clear h0 h2 hcl hL
      go_enter Try.func13, Try.ntmps13
      go_upto_region 5 with (fail)
      rw [HW1.out]
      go_wp2
      all_goals go_ret
      all_goals exact HP.out
  · have h0i : ¬ (0 : Int) < L := by omega
    have hne : c.ca = [] := List.eq_nil_of_length_eq_zero (by omega)
    have HP := Lib.hid (HID.out (by unfold recvS; rw [hne]; simp))
    clear h0 hcl hL hne
    go_enter Try.func13, Try.ntmps13
    go_upto_region 5 with (fail)
    rw [HW1.out]
    go_wp2
    all_goals go_ret
    all_goals exact HP.out
end Go.Proofs.Ytbifdckmkogbgaa
