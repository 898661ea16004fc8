/- Package frame: the message of the next chunks. -/
import Derived.Test.YtmmbhmfbhleglaaDoorFrE
namespace Go.Proofs.YtmmbhmfbhleglaaDoor
open Go Go.RowKit
theorem stepS_bound {W M W' M' : List UInt8} (h : stepS W M = .more W' M') : M'.length ≤ 16384 := by
  unfold stepS at h
  split at h
  · cases h
  · split at h
    · cases h
    · split at h
      · split at h <;> cases h
      · split at h
        · cases h
        · split at h
          · cases h
          · split at h
            · cases h
            · simp only [StepR.more.injEq] at h
              rw [← h.2, List.length_append, List.length_take]
              omega
def GatherPost (B : Nat) (Z : Nat → Prop) (b : Nat) (ch ov : Bool) (r : List UInt8 × Nat × List UInt8 × List UInt8) (w : World) (e : Ending) (w' : World) : Prop :=
  ∃ t : ByteArray, e = .returned (.tuple #[.string t, .int .i64 (r.2.1 : Nat)]) ∧ t.toList = r.1 ∧ Dc B Z w' b ⟨r.2.2.1, r.2.2.2, ch, ov⟩ ∧ Kp (FB B Z) w w'
structure GInv (B : Nat) (Z : Nat → Prop) (b : Nat) (ch ov : Bool) (r : List UInt8 × Nat × List UInt8 × List UInt8) (w wr : World) (W M : List UInt8) : Prop where
  dc : Dc B Z wr b ⟨W, M, ch, ov⟩
  eq : gatherS W M = r
  m : M.length ≤ 16384
  l : W.length ≤ 1000000
  kp : Kp (FB B Z) w wr
set_option maxRecDepth 20000 in
set_option maxHeartbeats 2000000 in
theorem gather_any (B : Nat) (Z : Nat → Prop) (b : Nat) (W M : List UInt8) (ch ov : Bool) (w : World) (h : Dc B Z w b ⟨W, M, ch, ov⟩) (hg : Gw w) (hB : 6 ≤ B) (hM : M.length ≤ 16384) (hW : W.length ≤ 1000000) :
    Calls Tryd.prog 16 #[.pointer (some ⟨b, 0, none⟩)] w (GatherPost B Z b ch ov (gatherS W M) w) := by
  have HG := Lib.hid hg
  have HB6 := Lib.hid hB
  have H0 : Hid (GInv B Z b ch ov (gatherS W M) w w W M) := Lib.hid ⟨h, rfl, hM, hW, Kp.refl _ _⟩
  obtain ⟨r, hr⟩ : ∃ r, r = gatherS W M := ⟨_, rfl⟩
  rw [← hr] at H0 ⊢
  clear hg h hM hW hr hB
  go_enter Tryd.func16, Tryd.ntmps16
  go_wp2
  go_loopg [4, 5] W.length (fun gg x y wr => ∃ W' M', GInv B Z b ch ov r w wr W' M' ∧ gg = W'.length)
  case atStart => exact ⟨W, M, H0.out, rfl⟩
  case round =>
    obtain ⟨W', M', hi, rfl⟩ := hrel
    have HI := Lib.hid hi
    clear hi
    cases hs : stepS W' M' with
    | form =>
      have HS := Lib.hid hs
      have HE : Hid (r = ([], 3, W', M')) := Lib.hid (by rw [← HI.out.eq]; exact gatherS_form hs)
      clear hs
      go_wp2_with fail
      go_at_call 19
      refine (step_any B Z b W' M' ch ov _ HI.out.dc (HG.out.fb HI.out.kp HB6.out) HI.out.m HI.out.l).mono ?_
      unfold StepPost
      rw [HS.out]
      rintro e w1 ⟨rfl, hd, hk⟩
      have HD := Lib.hid hd
      have HK1 := Lib.hid (HI.out.kp.tr hk)
      clear hd hk
      simp only [retOf] at HD ⊢
      go_wp2
      go_ret2
      rw [HE.out]
      exact ⟨{ data := #[] }, rfl, lit_toList _, HD.out, HK1.out⟩
    | wait =>
      have HS := Lib.hid hs
      have HE : Hid (r = ([], 4, W', M')) := Lib.hid (by rw [← HI.out.eq]; exact gatherS_wait hs)
      clear hs
      go_wp2_with fail
      go_at_call 19
      refine (step_any B Z b W' M' ch ov _ HI.out.dc (HG.out.fb HI.out.kp HB6.out) HI.out.m HI.out.l).mono ?_
      unfold StepPost
      rw [HS.out]
      rintro e w1 ⟨rfl, hd, hk⟩
      have HD := Lib.hid hd
      have HK1 := Lib.hid (HI.out.kp.tr hk)
      clear hd hk
      simp only [retOf] at HD ⊢
      go_wp2
      go_ret2
      rw [HE.out]
      exact ⟨{ data := #[] }, rfl, lit_toList _, HD.out, HK1.out⟩
    | long =>
      have HS := Lib.hid hs
      have HE : Hid (r = ([], 2, W', M')) := Lib.hid (by rw [← HI.out.eq]; exact gatherS_long hs)
      clear hs
      go_wp2_with fail
      go_at_call 19
      refine (step_any B Z b W' M' ch ov _ HI.out.dc (HG.out.fb HI.out.kp HB6.out) HI.out.m HI.out.l).mono ?_
      unfold StepPost
      rw [HS.out]
      rintro e w1 ⟨rfl, hd, hk⟩
      have HD := Lib.hid hd
      have HK1 := Lib.hid (HI.out.kp.tr hk)
      clear hd hk
      simp only [retOf] at HD ⊢
      go_wp2
      go_ret2
      rw [HE.out]
      exact ⟨{ data := #[] }, rfl, lit_toList _, HD.out, HK1.out⟩
    | done W2 =>
      have HS := Lib.hid hs
      have HE : Hid (r = (M', 0, W2, [])) := Lib.hid (by rw [← HI.out.eq]; exact gatherS_done hs)
      clear hs
      go_wp2_with fail
      go_at_call 19
      refine (step_any B Z b W' M' ch ov _ HI.out.dc (HG.out.fb HI.out.kp HB6.out) HI.out.m HI.out.l).mono ?_
      unfold StepPost
      rw [HS.out]
      rintro e w1 ⟨rfl, hd, hk⟩
      have HD := Lib.hid hd
      have HK1 := Lib.hid (HI.out.kp.tr hk)
      clear hd hk
      simp only [retOf] at HD ⊢
      obtain ⟨vw, vp, hv⟩ := HD.out
      have HV := Lib.hid hv
      have HN := Lib.hid (hv.setM (Kp.refl _ _) (Ow.nil B 5 w1) (l := []) (fun g hg => by cases hg))
      have hc1 := hv.c1
      have hf1 := hv.fz 1
      obtain ⟨ap, np, cp, rfl⟩ := hv.op.sl
      clear hv
      go_wp2_with (refine wl_str_of (o := ⟨some 20, _, _, _, _, _⟩) rfl _ 24 9 5 rfl Tryd.underlying24 Tryd.underlying5 Tryd.underlying9 rfl HV.out.op.rd ?_; intro s hs; have HSS := Lib.hid hs; clear hs)
      go_ret2
      rw [HE.out]
      exact ⟨s, rfl, HSS.out, HN.out.1.dc, HK1.out.tr HN.out.2⟩
    | more W2 M2 =>
      have HS := Lib.hid hs
      have HL := Lib.hid (stepS_more hs)
      have HI2 : Hid (∀ w1, Dc B Z w1 b ⟨W2, M2, ch, ov⟩ → Kp (FB B Z) w w1 → GInv B Z b ch ov r w w1 W2 M2) := Lib.hid (fun w1 h1 h2 => ⟨h1, by rw [← HI.out.eq]; exact (gatherS_more hs).symm, stepS_bound hs, by have := stepS_more hs; have := HI.out.l; omega, h2⟩)
      clear hs
      go_wp2_with fail
      go_at_call 19
      refine (step_any B Z b W' M' ch ov _ HI.out.dc (HG.out.fb HI.out.kp HB6.out) HI.out.m HI.out.l).mono ?_
      unfold StepPost
      rw [HS.out]
      rintro e w1 ⟨rfl, hd, hk⟩
      have HD := Lib.hid hd
      have HK1 := Lib.hid (HI.out.kp.tr hk)
      clear hd hk
      simp only [retOf] at HD ⊢
      go_wp2
      go_roundg W2.length
      case measure => exact HL.out
      case rel => exact ⟨W2, M2, HI2.out _ HD.out HK1.out, rfl⟩
end Go.Proofs.YtmmbhmfbhleglaaDoor
