/- Package chans: closing, flow. -/
import Derived.Test.YtbifdckmkogbgaaChB
import Derived.Deep.QuietTactic
import Derived.BigQuiet
namespace Go.Proofs.Ytbifdckmkogbgaa
open Go Go.RowKit
theorem CmV.lt {B : Nat} {w : World} {b : Nat} {F : Nat → Prop} {vw vc vo : Value} {rows : List Value} {c : Ch} (h : CmV B w b F vw vc vo rows c) : b < w.heap.size := (h.fB b h.fb).2
set_option maxRecDepth 20000 in
set_option maxHeartbeats 1000000 in
theorem close_any (B b : Nat) (F : Nat → Prop) (c : Ch) (w : World) (h : Cm B w b F c) (hu : c.nu < 4294967296) (hn : c.out.length ≤ 90000000) :
    Calls Try.prog 36 #[.pointer (some ⟨b, 0, none⟩)] w (DoneP B b F w (closeS c)) := by
  obtain ⟨vw, vc, vo, rows, h⟩ := h
  have HU := Lib.hid hu
  have HN := Lib.hid hn
  have hc11 := h.c11
  have hf11 := h.fz 11
  obtain ⟨cl, hcl⟩ : ∃ cl, cl = c.cl := ⟨_, rfl⟩
  rw [← hcl] at hc11
  cases cl with
  | true =>
    have HE : Hid (closeS c = c) := Lib.hid (by unfold closeS; rw [← hcl]; rfl)
    have HC := Lib.hid h.cm
    clear h hu hn hf11
    rw [HE.out]
    clear hcl
    go_enter Try.func36, Try.ntmps36
    go_wp2
    all_goals ((try simp only [Exit.inBlock, Exit.then]); refine bodyPost_ret (results_none rfl _ _ _) rfl ?_)
    all_goals exact ⟨rfl, CmP.refl HC.out⟩
  | false =>
    have HE : Hid (closeS c = sayS (sayS { c with cl := true, wa := [] } (toB 96 c.nu)) (toB 97 c.nu)) := Lib.hid (by unfold closeS; rw [← hcl]; rfl)
    have h1 := (h.set 11 (.bool true) { c with cl := true } rfl rfl rfl rfl)
    have h2 := h1.1.setW (Kp.refl _ _) (Ow.nil 0 _ _) (l := []) (fun g hg => by cases hg)
    have h2 := CmP.trans (fun i h => .inl h) h1.2 h2
    have hc7 := h1.1.c7
    have hf7 := h1.1.fz 7
    have H2 := Lib.hid h2
    have hc3 : ((w.setCell ⟨b, 11, none⟩ (.bool true)).setCell ⟨b, 7, none⟩ (.slice none 0 0)).cell? ⟨b, 3, none⟩ = some (.int .u32 c.nu) := by
      obtain ⟨F2, ⟨_, _, _, _, hh⟩, _, _⟩ := h2
      exact hh.c3
    clear h h1 h2 hu hn hcl
    rw [HE.out]
    go_enter Try.func36, Try.ntmps36
    go_wp2_with fail
    generalize ((w.setCell ⟨b, 11, none⟩ (.bool true)).setCell ⟨b, 7, none⟩ (.slice none 0 0)) = w2 at H2 hc3 ⊢
    obtain ⟨F2, hC2, hF2, hK2⟩ := H2.out
    refine (to_any _ _ 96 c.nu _ rfl (by decide) rfl HU.out).mono ?_
    rintro e w3 ⟨v3, rfl, ho3, hk3⟩
    have HO3 := Lib.hid ho3
    have HK3 := Lib.hid hk3
    have HC2 := Lib.hid hC2
    have HF2 := Lib.hid hF2
    have HKF2 := Lib.hid hK2
    clear ho3 hk3 hC2 hF2 hK2 H2 hc3 hc7 hf7 hc11 hf11
    go_wp2_with fail
    refine (say_own B b F2 _ v3 _ _ _ HC2.out HK3.out HO3.out (by have := HN.out; show c.out.length ≤ _; omega)).mono ?_
    rintro e w4 ⟨rfl, F4, hC4, hF4, hK4⟩
    obtain ⟨_, _, _, _, hV4⟩ := id hC4
    have hc3 := hV4.c3
    have HC4 := Lib.hid hC4
    have HF4 : Hid (∀ i, F4 i → F i ∨ w.heap.size ≤ i) := Lib.hid (fun i hi => by
      rcases hF4 i hi with h | h
      · exact HF2.out i h
      · have := HKF2.out.size; exact .inr (by omega))
    have HKF4 : Hid (Kp F w w4) := Lib.hid (HKF2.out.trans hK4 (fun _ _ h => h) (fun i hi h => (HF2.out i h).elim id (fun h => by omega)))
    clear hC4 hF4 hK4 hV4
    have hc3' : w4.cell? ⟨b, 3, none⟩ = some (.int .u32 c.nu) := hc3
    clear hc3
    go_wp2_with fail
    refine (to_any _ _ 97 c.nu _ rfl (by decide) rfl HU.out).mono ?_
    rintro e w5 ⟨v5, rfl, ho5, hk5⟩
    have HO5 := Lib.hid ho5
    have HK5 := Lib.hid hk5
    clear ho5 hk5 hc3'
    go_wp2_with fail
    refine (say_own B b F4 _ v5 _ _ _ HC4.out HK5.out HO5.out (by have := HN.out; show (c.out ++ [_]).length ≤ _; rw [List.length_append, List.length_singleton]; omega)).mono ?_
    rintro e w6 ⟨rfl, h6⟩
    have H6 := Lib.hid h6
    clear h6
    go_wp2
    go_end0
    exact ⟨rfl, CmP.trans HF4.out HKF4.out H6.out⟩
end Go.Proofs.Ytbifdckmkogbgaa
