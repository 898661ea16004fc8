/- Package frame: Next. -/
import Derived.Test.YtmmbhmfbhleglaaDoorFrG
namespace Go.Proofs.YtmmbhmfbhleglaaDoor
open Go Go.RowKit
structure Fine (s : St) : Prop where
  m : s.M.length ≤ 16384
  l : s.W.length ≤ 1000000
theorem next_raw (B : Nat) (Z : Nat → Prop) (b : Nat) (s : St) (w : World) (h : Dc B Z w b s) (hg : Gw w) (hB : 6 ≤ B) (hs : Fine s) :
    Calls Tryd.prog 12 #[.pointer (some ⟨b, 0, none⟩)] w (GatherPost B Z b s.ch s.ov (rawS s) w) := by
  obtain ⟨vw, vp, hv⟩ := id h
  have hc2 := hv.c2
  obtain ⟨W, M, ch, ov⟩ := s
  have H := Lib.hid h
  have HG := Lib.hid hg
  have HB6 := Lib.hid hB
  have HS := Lib.hid hs
  clear hv h hg hB hs
  cases ch with
  | true =>
    simp only [] at hc2
    obtain ⟨r, hr⟩ : ∃ r, r = gatherS W M := ⟨_, rfl⟩
    have HR : Hid (rawS ⟨W, M, true, ov⟩ = r) := Lib.hid (by rw [hr]; rfl)
    have HRR := Lib.hid hr
    rw [HR.out]
    clear hr
    go_enter Tryd.func12, Tryd.ntmps12
    go_wp2_with fail
    go_at_call 16
    refine (gather_any B Z b W M true ov _ H.out HG.out HB6.out HS.out.m HS.out.l).mono ?_
    unfold GatherPost
    rw [← HRR.out]
    rintro e w1 ⟨t, rfl, ht, hd, hk⟩
    have HT := Lib.hid ht
    have HD := Lib.hid hd
    have HK := Lib.hid hk
    clear ht hd hk hc2
    go_wp2
    go_ret2
    exact ⟨t, rfl, HT.out, HD.out, HK.out⟩
  | false =>
    simp only [] at hc2
    obtain ⟨r, hr⟩ : ∃ r, r = cutS W M := ⟨_, rfl⟩
    have HR : Hid (rawS ⟨W, M, false, ov⟩ = r) := Lib.hid (by rw [hr]; rfl)
    have HRR := Lib.hid hr
    rw [HR.out]
    clear hr
    go_enter Tryd.func12, Tryd.ntmps12
    go_wp2_with fail
    go_at_call 17
    refine (until_any B Z b W M false ov _ H.out HG.out HS.out.l).mono ?_
    unfold GatherPost
    rw [← HRR.out]
    rintro e w1 ⟨t, rfl, ht, hd, hk⟩
    have HT := Lib.hid ht
    have HD := Lib.hid hd
    have HK := Lib.hid hk
    clear ht hd hk hc2
    go_wp2
    go_ret2
    exact ⟨t, rfl, HT.out, HD.out, HK.out⟩
def NextPost (B : Nat) (Z : Nat → Prop) (b : Nat) (r : List UInt8 × Nat × St) (w : World) (e : Ending) (w' : World) : Prop :=
  ∃ t : ByteArray, e = .returned (.tuple #[.string t, .int .i64 (r.2.1 : Nat)]) ∧ t.toList = r.1 ∧ Dc B Z w' b r.2.2 ∧ Kp (FB B Z) w w'
theorem infoD (_w : World) : (Tryd.prog.info? 26).map (·.size) = some 4 := by kernel_rfl
/-- What is over. -/
theorem dc_over {B : Nat} {Z : Nat → Prop} {w w1 : World} {b : Nat} {s : St} (h : Dc B Z w b s) (hA : Blk w1 b 26 [.slice none 0 0, .slice none 0 0, .bool false, .bool true]) (hk : Kp (fun g => g = b) w w1) :
    Dc B Z w1 b ⟨[], [], false, true⟩ ∧ Kp (FB B Z) w w1 := by
  obtain ⟨vw, vp, hv⟩ := h
  refine ⟨⟨_, _, hA, Ow.nil _ _ _, Ow.nil _ _ _, hv.ge, hv.nz, fun g hg => ?_, fun g hg => ?_, fun i hi => Nat.lt_of_lt_of_le (hv.zs i hi) hk.size⟩, hk.mono (fun i _ hi => by subst hi; exact ⟨hv.ge, hv.nz⟩)⟩
  · cases hg
  · cases hg
theorem rawS_err (s : St) : (rawS s).2.1 = 0 ∨ (rawS s).2.1 = 4 ∨ (((rawS s).2.1 = 2 ∨ (rawS s).2.1 = 3) ∧ (rawS s).1 = []) := by
  have hg : ∀ (k : Nat) (W M : List UInt8), W.length ≤ k → (gatherS W M).2.1 = 0 ∨ (gatherS W M).2.1 = 4 ∨ (((gatherS W M).2.1 = 2 ∨ (gatherS W M).2.1 = 3) ∧ (gatherS W M).1 = []) := by
    intro k
    induction k with
    | zero =>
      intro W M hk
      cases hs : stepS W M with
      | form => rw [gatherS_form hs]; simp
      | wait => rw [gatherS_wait hs]; simp
      | long => rw [gatherS_long hs]; simp
      | done W' => rw [gatherS_done hs]; simp
      | more W' M' => have := stepS_more hs; omega
    | succ k ih =>
      intro W M hk
      cases hs : stepS W M with
      | form => rw [gatherS_form hs]; simp
      | wait => rw [gatherS_wait hs]; simp
      | long => rw [gatherS_long hs]; simp
      | done W' => rw [gatherS_done hs]; simp
      | more W' M' => rw [gatherS_more hs]; exact ih W' M' (by have := stepS_more hs; omega)
  unfold rawS
  split
  · exact hg _ _ _ (Nat.le_refl _)
  · unfold cutS
    split
    · simp
    · split <;> simp
set_option maxRecDepth 20000 in
set_option maxHeartbeats 2000000 in
theorem Next_any (B : Nat) (Z : Nat → Prop) (b : Nat) (s : St) (w : World) (h : Dc B Z w b s) (hg : Gw w) (hB : 6 ≤ B) (hs : Fine s) :
    Calls Tryd.prog 9 #[.pointer (some ⟨b, 0, none⟩)] w (NextPost B Z b (nextS s) w) := by
  obtain ⟨vw, vp, hv⟩ := id h
  have hc3 := hv.c3
  have H := Lib.hid h
  have HG := Lib.hid hg
  have HB6 := Lib.hid hB
  have HS := Lib.hid hs
  clear hv h hg hB hs
  obtain ⟨ov, hov⟩ : ∃ o, o = s.ov := ⟨_, rfl⟩
  rw [← hov] at hc3
  cases ov with
  | true =>
    have HE : Hid (nextS s = ([], 9, s)) := Lib.hid (by unfold nextS; rw [← hov]; rfl)
    rw [HE.out]
    clear hov
    go_enter Tryd.func9, Tryd.ntmps9
    go_wp2
    go_ret2
    exact ⟨{ data := #[] }, rfl, lit_toList _, H.out, Kp.refl _ _⟩
  | false =>
    obtain ⟨⟨r1, r2, r3, r4⟩, hr⟩ : ∃ r, r = rawS s := ⟨_, rfl⟩
    have hrc := rawS_err s
    rw [← hr] at hrc
    simp only [] at hrc
    have HRR := Lib.hid hr
    have HOV := Lib.hid hov
    have hne : nextS s = if r2 = 2 ∨ r2 = 3 then ([], r2, ⟨[], [], false, true⟩) else (r1, r2, ⟨r3, r4, s.ch, false⟩) := by
      unfold nextS
      rw [← hov, ← hr]
      rfl
    clear hov hr
    rcases hrc with rfl | rfl | ⟨rfl | rfl, hr1⟩
    · have HE : Hid (nextS s = (r1, 0, ⟨r3, r4, s.ch, false⟩)) := Lib.hid (by rw [hne]; exact if_neg (by decide))
      clear hne
      rw [HE.out]
      go_enter Tryd.func9, Tryd.ntmps9
      go_wp2_with fail
      go_at_call 12
      refine (next_raw B Z b s _ H.out HG.out HB6.out HS.out).mono ?_
      unfold GatherPost
      rw [← HRR.out]
      rintro e w1 ⟨t, rfl, ht, hd, hk⟩
      have HT := Lib.hid ht
      have HD := Lib.hid hd
      have HK := Lib.hid hk
      clear ht hd hk hc3
      simp only []
      go_wp2
      go_ret2
      exact ⟨t, rfl, HT.out, by have := HD.out; rwa [← HOV.out] at this, HK.out⟩
    · have HE : Hid (nextS s = (r1, 4, ⟨r3, r4, s.ch, false⟩)) := Lib.hid (by rw [hne]; exact if_neg (by decide))
      clear hne
      rw [HE.out]
      go_enter Tryd.func9, Tryd.ntmps9
      go_wp2_with fail
      go_at_call 12
      refine (next_raw B Z b s _ H.out HG.out HB6.out HS.out).mono ?_
      unfold GatherPost
      rw [← HRR.out]
      rintro e w1 ⟨t, rfl, ht, hd, hk⟩
      have HT := Lib.hid ht
      have HD := Lib.hid hd
      have HK := Lib.hid hk
      clear ht hd hk hc3
      simp only []
      go_wp2
      go_ret2
      exact ⟨t, rfl, HT.out, by have := HD.out; rwa [← HOV.out] at this, HK.out⟩
    · have HE : Hid (nextS s = ([], 2, ⟨[], [], false, true⟩)) := Lib.hid (by rw [hne]; exact if_pos (.inl rfl))
      clear hne
      have HR1 := Lib.hid hr1
      clear hr1
      rw [HE.out]
      go_enter Tryd.func9, Tryd.ntmps9
      go_wp2_with fail
      go_at_call 12
      refine (next_raw B Z b s _ H.out HG.out HB6.out HS.out).mono ?_
      unfold GatherPost
      rw [← HRR.out]
      rintro e w1 ⟨t, rfl, ht, hd, hk⟩
      have HT := Lib.hid ht
      have HD := Lib.hid hd
      have HK := Lib.hid hk
      clear ht hd hk hc3
      simp only []
      obtain ⟨vw8, vp8, hv8⟩ := HD.out
      have HV8 := Lib.hid hv8.blk
      clear hv8
      go_wp2_with (refine wl_store_blk rfl 26 (.tmp 25) (.tmp 24) rfl b _ _ [.slice none 0 0, .slice none 0 0, .bool false, .bool true] rfl rfl HV8.out (infoD w) rfl (by intro v hv; simp only [List.mem_cons, List.not_mem_nil, or_false] at hv; rcases hv with rfl | rfl | rfl | rfl <;> rfl) ?_; intro w8 hA8 hK8; have HD8 := Lib.hid (dc_over HD.out hA8 hK8); clear hA8 hK8)
      all_goals go_ret2
      all_goals exact ⟨t, rfl, by rw [HT.out]; exact HR1.out, HD8.out.1, HK.out.tr HD8.out.2⟩
    · have HE : Hid (nextS s = ([], 3, ⟨[], [], false, true⟩)) := Lib.hid (by rw [hne]; exact if_pos (.inr rfl))
      clear hne
      have HR1 := Lib.hid hr1
      clear hr1
      rw [HE.out]
      go_enter Tryd.func9, Tryd.ntmps9
      go_wp2_with fail
      go_at_call 12
      refine (next_raw B Z b s _ H.out HG.out HB6.out HS.out).mono ?_
      unfold GatherPost
      rw [← HRR.out]
      rintro e w1 ⟨t, rfl, ht, hd, hk⟩
      have HT := Lib.hid ht
      have HD := Lib.hid hd
      have HK := Lib.hid hk
      clear ht hd hk hc3
      simp only []
      obtain ⟨vw8, vp8, hv8⟩ := HD.out
      have HV8 := Lib.hid hv8.blk
      clear hv8
      go_wp2_with (refine wl_store_blk rfl 26 (.tmp 25) (.tmp 24) rfl b _ _ [.slice none 0 0, .slice none 0 0, .bool false, .bool true] rfl rfl HV8.out (infoD w) rfl (by intro v hv; simp only [List.mem_cons, List.not_mem_nil, or_false] at hv; rcases hv with rfl | rfl | rfl | rfl <;> rfl) ?_; intro w8 hA8 hK8; have HD8 := Lib.hid (dc_over HD.out hA8 hK8); clear hA8 hK8)
      all_goals go_ret2
      all_goals exact ⟨t, rfl, by rw [HT.out]; exact HR1.out, HD8.out.1, HK.out.tr HD8.out.2⟩
end Go.Proofs.YtmmbhmfbhleglaaDoor
