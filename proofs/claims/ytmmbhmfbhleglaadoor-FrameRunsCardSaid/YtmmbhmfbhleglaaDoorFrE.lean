/- Package frame: a step, and the message of the next chunks. -/
import Derived.Test.YtmmbhmfbhleglaaDoorFrD
import Derived.Test.YtmmbhmfbhleglaaDoorFSb
namespace Go.Proofs.YtmmbhmfbhleglaaDoor
open Go Go.RowKit
theorem step_chunk {W M hd : List UInt8} (h : HeadIs W hd) (hd0 : hd ≠ [10, 35, 35]) : retOf W M (stepS W M) = (false, chunkS W M hd.length (sizeS (Lib.trimPrefix hd [10, 35]))) := by
  have h1 : 1 ≤ hd.length := by rw [h.len]; exact endAt_pos _
  rw [sizeS_trim h.beg h1]
  unfold stepS chunkS
  rw [← h.eq, if_neg, if_neg (by have := h.lt; omega), if_neg hd0, ← h.len]
  · cases sizeS (hd.drop 2) with
    | none => rfl
    | some n =>
      simp only []
      by_cases h3 : 16384 < M.length + n
      · rw [if_pos h3, if_pos h3]; rfl
      · rw [if_neg h3, if_neg h3]
        by_cases h4 : W.length < hd.length + 1 + n
        · rw [if_pos h4, if_pos h4]; rfl
        · rw [if_neg h4, if_neg h4]; rfl
  · rintro (h3 | h3)
    · have := h.le; omega
    · exact h3 h.beg
def StepPost (B : Nat) (Z : Nat → Prop) (b : Nat) (ch ov : Bool) (r : Bool × Nat × List UInt8 × List UInt8) (w : World) (e : Ending) (w' : World) : Prop :=
  e = .returned (.tuple #[.bool r.1, .int .i64 (r.2.1 : Nat)]) ∧ Dc B Z w' b ⟨r.2.2.1, r.2.2.2, ch, ov⟩ ∧ Kp (FB B Z) w w'
theorem Dc.kp0 {B : Nat} {Z : Nat → Prop} {w w1 : World} {b : Nat} {s : St} (h : Dc B Z w b s) (hk : Kp0 w w1) : Dc B Z w1 b s := by
  obtain ⟨vw, vp, h⟩ := h
  exact ⟨vw, vp, h.kp0 hk⟩
theorem last_toList : ({ data := #[10, 35, 35] } : ByteArray).toList = [10, 35, 35] := lit_toList _
set_option maxRecDepth 20000 in
set_option maxHeartbeats 2000000 in
theorem step_any (B : Nat) (Z : Nat → Prop) (b : Nat) (W M : List UInt8) (ch ov : Bool) (w : World) (h : Dc B Z w b ⟨W, M, ch, ov⟩) (hg : Gw w) (hM : M.length ≤ 16384) (hW : W.length ≤ 1000000) :
    Calls Tryd.prog 19 #[.pointer (some ⟨b, 0, none⟩)] w (StepPost B Z b ch ov (retOf W M (stepS W M)) w) := by
  have H := Lib.hid h
  have HG := Lib.hid hg
  have HM := Lib.hid hM
  have HW := Lib.hid hW
  clear hg hM hW
  obtain ⟨t, ht⟩ : ∃ t : ByteArray, t.toList = (headS W).1 := ⟨⟨(headS W).1.toArray⟩, ByteArray.toList_mk _⟩
  have hts : t.size ≤ 100 := by
    have h1 := size_toList t
    rw [ht] at h1
    have h2 : (headS W).1.length ≤ 10 := by
      unfold headS
      split <;> simp <;> omega
    omega
  have HT := Lib.hid ht
  have HTS := Lib.hid hts
  obtain ⟨c, hc⟩ : ∃ c, c = begB (headS W).1 := ⟨_, rfl⟩
  obtain ⟨f, hf⟩ : ∃ f, f = (headS W).2 := ⟨_, rfl⟩
  have HC : Hid (begB t.toList = c) := Lib.hid (by rw [ht, hc])
  have HF : Hid ((headS W).2 = f) := Lib.hid hf.symm
  clear h
  cases c with
  | false =>
    have HR := Lib.hid (step_off (M := M) hc.symm)
    clear hc hf ht hts
    rw [HR.out]
    go_enter Tryd.func19, Tryd.ntmps19
    go_wp2_with (first
      | (go_at_call 26; refine (head_any B Z b _ _ H.out).mono ?_; unfold HeadPost; rintro e w1 ⟨t', rfl, ht', hk⟩; obtain rfl : t = t' := str_ext (by rw [ht', HT.out]); rw [HF.out]; have HK1 := Lib.hid hk; clear ht' hk)
      | (go_at_call 27; refine (begins_any _ _ HTS.out).mono ?_; rw [HC.out]; rintro e w2 ⟨rfl, hk⟩; have HK2 := Lib.hid (HK1.out.tr hk); clear hk))
    all_goals go_ret2
    all_goals exact ⟨rfl, (H.out.kp0 HK2.out), HK2.out.nil _⟩
  | true =>
    cases f with
    | false =>
      have HR := Lib.hid (step_waits (M := M) hc.symm hf.symm)
      clear hc hf ht hts
      rw [HR.out]
      go_enter Tryd.func19, Tryd.ntmps19
      go_wp2_with (first
        | (go_at_call 26; refine (head_any B Z b _ _ H.out).mono ?_; unfold HeadPost; rintro e w1 ⟨t', rfl, ht', hk⟩; obtain rfl : t = t' := str_ext (by rw [ht', HT.out]); rw [HF.out]; have HK1 := Lib.hid hk; clear ht' hk)
        | (go_at_call 27; refine (begins_any _ _ HTS.out).mono ?_; rw [HC.out]; rintro e w2 ⟨rfl, hk⟩; have HK2 := Lib.hid (HK1.out.tr hk); clear hk))
      all_goals go_ret2
      all_goals exact ⟨rfl, (H.out.kp0 HK2.out), HK2.out.nil _⟩
    | true =>
      have HI := Lib.hid (head_is hc.symm hf.symm)
      clear hc hf
      have hti : (t.size : Int) ≤ 9 := by have := HI.out.le; rw [← HT.out, size_toList] at this; omega
      have HT9 : Hid (t.size ≤ 9) := Lib.hid (by omega)
      obtain ⟨vw, vp, hv⟩ := H.out
      have HV := Lib.hid hv
      obtain ⟨ap, cp, rfl, hp1, hp2, -⟩ := hv.op.shapeB
      simp only [] at HV hp1 hp2
      obtain ⟨ML, hML⟩ : ∃ k, k = M.length := ⟨_, rfl⟩
      have HML := Lib.hid hML
      rw [← hML] at HV hp1
      by_cases hl : t.toList = [10, 35, 35]
      · have HLE := Lib.hid hl
        have hb1 : (t.toList == ([10, 35, 35] : List UInt8)) = true := by rw [hl]; rfl
        by_cases h0 : ML = 0
        · have HR : Hid (stepS W M = .form) := Lib.hid (by
            obtain rfl : M = [] := List.eq_nil_of_length_eq_zero (by omega)
            exact step_none HI.out (by rw [← HT.out, hl]))
          have h0i : (ML : Int) = 0 := by omega
          have h0b : ((ML : Int) == 0) = true := by rw [h0i]; rfl
          clear hv hts hl hML h0 hp1 hp2 h0i ht
          rw [HR.out]
          go_enter Tryd.func19, Tryd.ntmps19
          go_wp2_with (first
            | (go_at_call 26; refine (head_any B Z b _ _ H.out).mono ?_; unfold HeadPost; rintro e w1 ⟨t', rfl, ht', hk⟩; obtain rfl : t = t' := str_ext (by rw [ht', HT.out]); rw [HF.out]; have HK1 := Lib.hid hk; clear ht' hk)
            | (go_at_call 27; refine (begins_any _ _ HTS.out).mono ?_; rw [HC.out]; rintro e w2 ⟨rfl, hk⟩; have HK2 := Lib.hid (HK1.out.tr hk); have hc1 := (HV.out.kp0 HK2.out).c1; clear hk))
          all_goals go_ret2
          all_goals exact ⟨rfl, (H.out.kp0 HK2.out), HK2.out.nil _⟩
        · have HR : Hid (stepS W M = .done (W.drop (t.size + 1))) := Lib.hid (by
            have := step_done (M := M) HI.out (by rw [← HT.out, hl]) (fun e => h0 (by rw [hML, e]; rfl))
            rwa [← HT.out, size_toList] at this)
          have h0b : ((ML : Int) == 0) = false := by rw [beq_eq_false_iff_ne]; omega
          have HLW : Hid (t.size + 1 ≤ W.length) := Lib.hid (by
            have h1 := HI.out.len
            have h2 := HI.out.lt
            rw [← HT.out, size_toList] at h1
            omega)
          clear hv hts hl hML h0 hp1 hp2 ht
          rw [HR.out]
          go_enter Tryd.func19, Tryd.ntmps19
          go_wp2_with (first
            | (go_at_call 26; refine (head_any B Z b _ _ H.out).mono ?_; unfold HeadPost; rintro e w1 ⟨t', rfl, ht', hk⟩; obtain rfl : t = t' := str_ext (by rw [ht', HT.out]); rw [HF.out]; have HK1 := Lib.hid hk; clear ht' hk)
            | (go_at_call 27; refine (begins_any _ _ HTS.out).mono ?_; rw [HC.out]; rintro e w2 ⟨rfl, hk⟩; have HK2 := Lib.hid (HK1.out.tr hk); have hc1 := (HV.out.kp0 HK2.out).c1; clear hk))
          go_wp2_with (go_at_call 21; refine (drop_anyI B Z b ⟨W, M, ch, ov⟩ (t.size + 1) _ _ (by omega) (H.out.kp0 HK2.out) HLW.out).mono ?_; rintro e w4 ⟨rfl, hd, hk⟩; have HD4 := Lib.hid hd; have HK4 : Hid (Kp (FB B Z) w w4) := Lib.hid ((HK2.out.nil _).tr hk); clear hd hk)
          all_goals go_ret2
          all_goals exact ⟨rfl, HD4.out, HK4.out⟩
      · have hb1 : (t.toList == ([10, 35, 35] : List UInt8)) = false := by rw [beq_eq_false_iff_ne]; exact hl
        have HR : Hid (retOf W M (stepS W M) = (false, chunkS W M t.size (sizeS (Lib.trimPrefix t.toList [10, 35])))) := Lib.hid (by
          have := step_chunk (M := M) HI.out (by rw [← HT.out]; exact hl)
          rwa [← HT.out, size_toList] at this)
        clear hv hts hl hML hp1 hp2 ht
        rw [HR.out]
        obtain ⟨⟨r1, r2, r3⟩, hr⟩ : ∃ r, r = chunkS W M t.size (sizeS (Lib.trimPrefix t.toList [10, 35])) := ⟨_, rfl⟩
        rw [← hr]
        have HRR := Lib.hid hr
        clear hr HR
        go_enter Tryd.func19, Tryd.ntmps19
        go_wp2_with (first
          | (go_at_call 26; refine (head_any B Z b _ _ H.out).mono ?_; unfold HeadPost; rintro e w1 ⟨t', rfl, ht', hk⟩; obtain rfl : t = t' := str_ext (by rw [ht', HT.out]); rw [HF.out]; have HK1 := Lib.hid hk; clear ht' hk)
          | (go_at_call 27; refine (begins_any _ _ HTS.out).mono ?_; rw [HC.out]; rintro e w2 ⟨rfl, hk⟩; have HK2 := Lib.hid (HK1.out.tr hk); clear hk))
        refine (chunk_any B Z b W M ch ov t _ (H.out.kp0 HK2.out) (HG.out.kp0 HK2.out) HT9.out HM.out HW.out).mono ?_
        rw [← HRR.out]
        rintro e w3 ⟨rfl, hd, hk⟩
        have HD3 := Lib.hid hd
        have HK3 : Hid (Kp (FB B Z) w w3) := Lib.hid ((HK2.out.nil _).tr hk)
        clear hd hk
        simp only [] at HD3 ⊢
        go_wp2
        all_goals go_ret2
        all_goals exact ⟨rfl, HD3.out, HK3.out⟩
end Go.Proofs.YtmmbhmfbhleglaaDoor
