/- Package chans: whether a message may come. -/
import Derived.Test.YtbifdckmkogbgaaChH
namespace Go.Proofs.Ytbifdckmkogbgaa
open Go Go.RowKit
set_option maxRecDepth 20000 in
set_option maxHeartbeats 2000000 in
theorem hears_any (B b : Nat) (F : Nat → Prop) (c : Ch) (m : Msg) (t : ByteArray) (w : World) (h0 : Cm B w b F c) (ht : t.toList = m.text) (hw : c.wi ≤ 2147483647) (hwm : m.win < 4294967296) :
    Calls Try.prog 33 #[.pointer (some ⟨b, 0, none⟩), .agg (cellsM m t).toArray] w (BoolP (hearsS c m) w) := by
  obtain ⟨vw, vc, vo, rows, h⟩ := id h0
  obtain ⟨k, tg, fr, win, most, text, ask, runs⟩ := m
  simp only [] at ht hwm
  show Calls Try.prog 33 #[.pointer (some ⟨b, 0, none⟩), .agg #[.int .u8 (k : Int), .int .u32 (tg : Int), .int .u32 (fr : Int), .int .u32 (win : Int), .int .u32 (most : Int), .string t, .bool ask, .bool runs]] w _
  have HA := Lib.hid (fun (o : Obj) => h.kp0 ((Kp.refl _ w).alloc o))
  have HC0 := Lib.hid (fun (o : Obj) => h0.kp0 ((Kp.refl _ w).alloc o))
  have HK := Lib.hid (fun (o : Obj) => ((Kp.refl _ w).alloc o : Kp0 w (w.alloc o)))
  obtain ⟨st, hst⟩ : ∃ x, x = c.st := ⟨_, rfl⟩
  obtain ⟨sv, hsv⟩ : ∃ x, x = c.sv := ⟨_, rfl⟩
  have hc0 := fun o => (HA.out o).c0
  have hc1 := fun o => (HA.out o).c1
  simp only [← hsv] at hc0
  simp only [← hst] at hc1
  have HTT := Lib.hid ht
  have HW := Lib.hid hw
  have HWM := Lib.hid hwm
  have HST := Lib.hid hst
  have HSV := Lib.hid hsv
  clear h ht h0 hw hwm hst hsv HA
  by_cases h90 : k = 90
  · subst h90
    have HE : Hid (hearsS c ⟨90, tg, fr, win, most, text, ask, runs⟩ = sv) := Lib.hid (by unfold hearsS; rw [HSV.out]; rfl)
    rw [HE.out]
    clear hc1
    go_enter Try.func33, Try.ntmps33
    go_wp2
    all_goals go_ret
    all_goals exact ⟨rfl, HK.out _⟩
  have e90 : ((k : Int) == 90) = false := by rw [beq_eq_false_iff_ne]; omega
  by_cases h91 : k = 91
  · subst h91
    clear hc0 h90
    by_cases h1 : st = 1
    · have h1b : ((st : Int) == 1) = true := by rw [beq_iff_eq]; omega
      by_cases h2 : tg = 0
      · have h2b : ((tg : Int) == 0) = true := by rw [beq_iff_eq]; omega
        by_cases h3 : 0 < most
        · have h3i : (0 : Int) < most := by omega
          have HE : Hid (hearsS c ⟨91, tg, fr, win, most, text, ask, runs⟩ = true) := Lib.hid (by unfold hearsS; rw [← HST.out, h1, h2]; simp; omega)
          rw [HE.out]
          clear h1 h2
          go_enter Try.func33, Try.ntmps33
          go_wp2
          all_goals go_ret
          all_goals exact ⟨rfl, HK.out _⟩
        · have h3i : ¬ (0 : Int) < most := by omega
          have HE : Hid (hearsS c ⟨91, tg, fr, win, most, text, ask, runs⟩ = false) := Lib.hid (by unfold hearsS; rw [← HST.out, h1, h2]; simp; omega)
          rw [HE.out]
          clear h1 h2
          go_enter Try.func33, Try.ntmps33
          go_wp2
          all_goals go_ret
          all_goals exact ⟨rfl, HK.out _⟩
      · have h2b : ((tg : Int) == 0) = false := by rw [beq_eq_false_iff_ne]; omega
        have HE : Hid (hearsS c ⟨91, tg, fr, win, most, text, ask, runs⟩ = false) := Lib.hid (by unfold hearsS; rw [← HST.out, h1]; simp [h2])
        rw [HE.out]
        clear h1 h2
        go_enter Try.func33, Try.ntmps33
        go_wp2
        all_goals go_ret
        all_goals exact ⟨rfl, HK.out _⟩
    · have h1b : ((st : Int) == 1) = false := by rw [beq_eq_false_iff_ne]; omega
      have HE : Hid (hearsS c ⟨91, tg, fr, win, most, text, ask, runs⟩ = false) := Lib.hid (by unfold hearsS; rw [← HST.out]; simp [h1])
      rw [HE.out]
      clear h1
      go_enter Try.func33, Try.ntmps33
      go_wp2
      all_goals go_ret
      all_goals exact ⟨rfl, HK.out _⟩
  have e91 : ((k : Int) == 91) = false := by rw [beq_eq_false_iff_ne]; omega
  by_cases h92 : k = 92
  · subst h92
    clear hc0 h90 h91
    by_cases h1 : st = 1
    · have h1b : ((st : Int) == 1) = true := by rw [beq_iff_eq]; omega
      have HE : Hid (hearsS c ⟨92, tg, fr, win, most, text, ask, runs⟩ = true) := Lib.hid (by unfold hearsS; rw [← HST.out, h1]; rfl)
      rw [HE.out]
      clear h1
      go_enter Try.func33, Try.ntmps33
      go_wp2
      all_goals go_ret
      all_goals exact ⟨rfl, HK.out _⟩
    · have h1b : ((st : Int) == 1) = false := by rw [beq_eq_false_iff_ne]; omega
      have HE : Hid (hearsS c ⟨92, tg, fr, win, most, text, ask, runs⟩ = false) := Lib.hid (by unfold hearsS; rw [← HST.out]; simp [h1])
      rw [HE.out]
      clear h1
      go_enter Try.func33, Try.ntmps33
      go_wp2
      all_goals go_ret
      all_goals exact ⟨rfl, HK.out _⟩
  have e92 : ((k : Int) == 92) = false := by rw [beq_eq_false_iff_ne]; omega
  have HE0 : Hid (hearsS c ⟨k, tg, fr, win, most, text, ask, runs⟩ = (decide (st = 2) && decide (tg = 0) && hearsO c ⟨k, tg, fr, win, most, text, ask, runs⟩)) := Lib.hid (by
    unfold hearsS
    rw [if_neg h90, if_neg h91, if_neg h92, HST.out])
  clear hc0 h90 h91 h92
  by_cases h1 : st = 2
  · have h1b : ((st : Int) == 2) = true := by rw [beq_iff_eq]; omega
    by_cases h2 : tg = 0
    · have h2b : ((tg : Int) == 0) = true := by rw [beq_iff_eq]; omega
      obtain ⟨x, hx⟩ : ∃ x, x = hearsO c ⟨k, tg, fr, win, most, text, ask, runs⟩ := ⟨_, rfl⟩
      have HX := Lib.hid hx
      have HE : Hid (hearsS c ⟨k, tg, fr, win, most, text, ask, runs⟩ = x) := Lib.hid (by rw [HE0.out, ← HX.out, decide_eq_true h1, decide_eq_true h2]; rfl)
      rw [HE.out]
      clear h1 h2 hx
      go_enter Try.func33, Try.ntmps33
      go_wp2_with (go_at_call 50; refine (hearsO_any B b F c ⟨k, tg, fr, win, most, text, ask, runs⟩ t _ (HC0.out _) HTT.out HW.out HWM.out).mono ?_; rw [← HX.out]; rintro e w1 ⟨rfl, hk⟩; have HK1 := Lib.hid ((HK.out _).tr hk); clear hk)
      all_goals go_ret
      all_goals exact ⟨rfl, HK1.out⟩
    · have h2b : ((tg : Int) == 0) = false := by rw [beq_eq_false_iff_ne]; omega
      have HE : Hid (hearsS c ⟨k, tg, fr, win, most, text, ask, runs⟩ = false) := Lib.hid (by rw [HE0.out, decide_eq_false h2]; simp)
      rw [HE.out]
      clear h1 h2
      go_enter Try.func33, Try.ntmps33
      go_wp2
      all_goals go_ret
      all_goals exact ⟨rfl, HK.out _⟩
  · have h1b : ((st : Int) == 2) = false := by rw [beq_eq_false_iff_ne]; omega
    have HE : Hid (hearsS c ⟨k, tg, fr, win, most, text, ask, runs⟩ = false) := Lib.hid (by rw [HE0.out, decide_eq_false h1]; simp)
    rw [HE.out]
    clear h1
    go_enter Try.func33, Try.ntmps33
    go_wp2
    all_goals go_ret
    all_goals exact ⟨rfl, HK.out _⟩
end Go.Proofs.Ytbifdckmkogbgaa
