/- Package chans: answering. -/
import Derived.Test.YtbifdckmkogbgaaChJ
namespace Go.Proofs.Ytbifdckmkogbgaa
open Go Go.RowKit
set_option maxRecDepth 20000 in
set_option maxHeartbeats 2000000 in
theorem answer_any (B b : Nat) (F : Nat → Prop) (c : Ch) (m : Msg) (t : ByteArray) (w : World) (h0 : Cm B w b F c) (hu : c.nu < 4294967296) (hn : c.out.length ≤ 80000000) :
    Calls Try.prog 54 #[.pointer (some ⟨b, 0, none⟩), .agg (cellsM m t).toArray] w (DoneP B b F w (answerS c m)) := by
  obtain ⟨vw, vc, vo, rows, h⟩ := id h0
  obtain ⟨k, tg, fr, win, most, text, ask, runs⟩ := m
  show Calls Try.prog 54 #[.pointer (some ⟨b, 0, none⟩), .agg #[.int .u8 (k : Int), .int .u32 (tg : Int), .int .u32 (fr : Int), .int .u32 (win : Int), .int .u32 (most : Int), .string t, .bool ask, .bool runs]] w _
  have HU := Lib.hid hu
  have HN := Lib.hid hn
  have hbn : ¬ b = w.heap.size := by have := h.lt; omega
  have hbn2 : ¬ w.heap.size = b := by have := h.lt; omega
  have hA := fun (o : Obj) => h.kp0 ((Kp.refl _ w).alloc o)
  obtain ⟨sv, hsv⟩ : ∃ x, x = c.sv := ⟨_, rfl⟩
  obtain ⟨rd, hrd⟩ : ∃ x, x = c.rd := ⟨_, rfl⟩
  have hc0 := fun o => (hA o).c0
  have hc2 := fun o => (hA o).c2
  have hc3 := fun o => (hA o).c3
  have hf2 := fun o => (hA o).fz 2
  simp only [← hsv] at hc0
  simp only [← hrd] at hc2
  obtain ⟨rn, hrn⟩ : ∃ x, x = (runs && sv && !rd) := ⟨_, rfl⟩
  have HX := Lib.hid (fun (o : Obj) => (hA o).rdy (rd || rn))
  have HE : Hid (answerS c ⟨k, tg, fr, win, most, text, ask, runs⟩ = if ask then sayS { c with rd := rd || rn } (toB (if rn then 99 else 100) c.nu) else { c with rd := rd || rn }) := Lib.hid (by unfold answerS; rw [hrn, hrd, hsv])
  rw [HE.out]
  clear HE h h0 hu hn hsv hrd hA
  cases ask with
  | false =>
    cases runs <;> cases sv <;> cases rd <;> (simp only [Bool.false_and, Bool.and_false, Bool.true_and, Bool.not_true, Bool.not_false, Bool.and_true] at hrn; subst hrn)
    all_goals
      simp only [Bool.or_false, Bool.or_true, if_false, Bool.false_eq_true] at HX ⊢
      go_enter Try.func54, Try.ntmps54
      go_wp2
      ((try simp only [Exit.inBlock, Exit.then]); refine bodyPost_ret (results_none rfl _ _ _) rfl ?_)
      exact ⟨rfl, CmP.al (HX.out _)⟩
  | true =>
    have HX2 := Lib.hid (HX.out (.cells #[.int .u8 (k : Int), .int .u32 (tg : Int), .int .u32 (fr : Int), .int .u32 (win : Int), .int .u32 (most : Int), .string t, .bool true, .bool runs] 58))
    clear HX
    cases runs <;> cases sv <;> cases rd <;> (simp only [Bool.false_and, Bool.and_false, Bool.true_and, Bool.not_true, Bool.not_false, Bool.and_true] at hrn; subst hrn)
    all_goals
      simp only [Bool.or_false, Bool.or_true, if_true, if_false, Bool.false_eq_true] at HX2 ⊢
      go_enter Try.func54, Try.ntmps54
      go_wp2_with fail
      first
        | (refine (to_any _ _ 100 c.nu _ rfl (by decide) rfl HU.out).mono ?_
           rintro e w2 ⟨v2, rfl, ho2, hk2⟩)
        | (refine (to_any _ _ 99 c.nu _ rfl (by decide) rfl HU.out).mono ?_
           rintro e w2 ⟨v2, rfl, ho2, hk2⟩)
      obtain ⟨F1, hC1, hF1, hK1⟩ := HX2.out
      have HC1 := Lib.hid hC1
      have HO2 := Lib.hid ho2
      have HK2 := Lib.hid hk2
      clear ho2 hk2 hC1
      go_wp2_with fail
      refine (say_own B b F1 _ v2 _ _ _ HC1.out HK2.out HO2.out (by have := HN.out; show c.out.length ≤ _; omega)).mono ?_
      rintro e w3 ⟨rfl, h3⟩
      have H3 := Lib.hid (CmP.al (CmP.trans hF1 hK1 h3))
      clear h3 hF1 hK1
      go_wp2
      go_end0
      exact ⟨rfl, H3.out⟩
end Go.Proofs.Ytbifdckmkogbgaa
