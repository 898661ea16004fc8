/- The reference's reader: Int. -/
import Derived.Test.YtigghfbochemgaaDoorCur2
import Derived.Test.YtigghfbochemgaaDoorRef
import Derived.Test.YtigghfbochemgaaDoorFit
import Derived.Test.YtigghfbochemgaaDoorReg2
import Derived.Deep.DeepCutAuto
namespace Go.Proofs.YtigghfbochemgaaDoor
open Go Go.RowKit

theorem intP_sig (l : List UInt8) (st : Option (List UInt8)) : intP l st = if hiB l = false ∧ signed (stripZ l) = l then (stripZ l, st) else ([], none) := by
  cases l with
  | nil => rfl
  | cons c r =>
    by_cases hh : hiB (c :: r) = true
    · rw [intP_hi st hh, if_neg (by rw [hh]; simp)]
    · have hf : hiB (c :: r) = false := by simpa using hh
      by_cases hc : c = 0
      · rw [intP_c0 st rfl hc]
        have e1 : stripZ (c :: r) = stripZ r := by rw [stripZ, if_pos hc]
        rw [e1]
        cases r with
        | nil => simp [hiB, stripZ, signed]
        | cons d r2 =>
          by_cases hd : d = 0
          · have e2 : stripZ (d :: r2) = stripZ r2 := by rw [stripZ, if_pos hd]
            have hlen := stripZ_len r2
            have h0 : hiB (d :: r2) = false := by simp [hiB, hd]
            rw [if_neg (by rw [h0]; simp), if_neg]
            rintro ⟨_, e⟩
            rw [e2] at e
            have := congrArg List.length e
            unfold signed at this
            split at this <;> simp at this <;> omega
          · have e2 : stripZ (d :: r2) = d :: r2 := by rw [stripZ, if_neg hd]
            rw [e2]
            by_cases h1 : hiB (d :: r2) = true
            · rw [if_pos h1, if_pos ⟨hf, by unfold signed; rw [if_pos h1, hc]⟩]
            · rw [if_neg h1, if_neg]
              rintro ⟨_, e⟩
              have := congrArg List.length e
              unfold signed at this
              rw [if_neg h1] at this
              simp at this
      · have e1 : stripZ (c :: r) = c :: r := by rw [stripZ, if_neg hc]
        rw [intP_c1 st rfl hc hf, e1, if_pos ⟨hf, by unfold signed; rw [if_neg hh]⟩]

theorem encText_inj {a b : List UInt8} (h : encText a = encText b) : a = b := by
  have := congrArg (List.drop 4) h
  unfold encText at this
  rwa [List.drop_left' (be4_len _), List.drop_left' (be4_len _)] at this

set_option maxRecDepth 20000 in
set_option maxHeartbeats 4000000 in
theorem int_cs (c : Nat) (v : Value) (lb : List UInt8) (st : Option (List UInt8)) (w : World) (h : Cs w c v lb st) (hlb : lb.length ≤ 140737488351232) (hc0 : ∀ g, v.ownBlock = some g → g < w.heap.size) :
    Calls Tryd.prog 19 #[.pointer (some ⟨c, 0, none⟩)] w fun e w' => ∃ x, e = .returned x ∧ Rd w' x (bys (intS st).1) ∧ Cs w' c v lb (intS st).2 ∧ Kp (At c) w w' ∧ (∀ g, x.ownBlock = some g → w.heap.size ≤ g) := by
  have H := Lib.hid h
  have hcw : c < w.heap.size := by obtain ⟨⟨n, f, h1, _⟩, _⟩ := h; exact blk_lt h1
  have HV0 := Lib.hid hc0
  clear h hc0
  go_enter Tryd.func19, Tryd.ntmps19
  go_wp2_with fail
  refine (text_cs c v lb st _ H.out hlb).mono ?_
  rintro e w1 ⟨t, rfl, ht, hc, hk⟩
  have hst : t.size ≤ 16384 := by rw [← size_toList, ht]; exact textS_len st
  have HC := Lib.hid hc
  have HK := Lib.hid hk
  have HT := Lib.hid ht
  have hs1 := hk.size
  clear hc hk ht
  go_wp2_with (refine wl_bytes_of_str (o := ⟨some 7, _, _, _, _, _⟩) rfl _ 9 22 5 rfl Tryd.underlying9 Tryd.underlying22 Tryd.underlying5 t rfl (by omega) ?_)
  intro cap w2 hrd hg
  obtain ⟨l, hl⟩ : ∃ l, l = t.toList := ⟨_, rfl⟩
  have hsz : t.size = l.length := by rw [hl, size_toList]
  have hk2 := (Kp.refl (fun _ => False) w1).grown hg (by simp)
  rw [← hl] at hrd
  rw [hsz] at hrd hst ⊢
  have HI : Hid (intS st = if hiB l = false ∧ signed (stripZ l) = l then (stripZ l, (textS st).2) else ([], none)) := Lib.hid (by
    unfold intS; rw [intP_sig, ← HT.out, ← hl])
  have hcapl : l.length ≤ cap ∧ cap ≤ 9223372036854775807 := by
    obtain ⟨ao, c2, e, h1, h2, _⟩ := hrd.shapeB
    simp only [Value.slice.injEq] at e
    obtain ⟨_, _, rfl⟩ := e
    exact ⟨h1, h2⟩
  obtain ⟨hcap1, hcap2⟩ := hcapl
  have HR := Lib.hid hrd
  have HK2 := Lib.hid hk2
  have hs2 := hk2.size
  obtain ⟨B, hB⟩ : ∃ B, B = w1.heap.size := ⟨_, rfl⟩
  rw [← hB] at HR ⊢
  have HBB := Lib.hid hB
  have HC2 : Hid (Cs w2 c v lb (textS st).2) := Lib.hid (HC.out.keep hk2 (fun h => h) (fun _ _ _ h => h))
  clear hg hk2 hrd hl hsz hs2 hB
  go_wp2
  go_loop [4] (fun i => ∃ k : Nat, i = .int .i64 k ∧ k ≤ l.length ∧ Hid (stripZ (l.drop k) = stripZ l)) (fun i => l.length - (intOf i).toNat)
  case atStart => exact ⟨0, rfl, Nat.zero_le _, Lib.hid rfl⟩
  case round =>
    obtain ⟨i, rfl, hi, HS⟩ := hrel
    by_cases hz : ∃ h : i < l.length, (l[i]'h).toNat = 0
    · have hc2 := hz
      obtain ⟨h, hzz⟩ := hc2
      have HSt := Lib.hid (rint_step l i h hzz)
      obtain ⟨b8, o8, c8, e8, _, _, hcell⟩ := HR.out.posB (by omega)
      simp only [Value.slice.injEq, Option.some.injEq, Addr.mk.injEq] at e8
      obtain ⟨⟨rfl, rfl, _⟩, _, rfl⟩ := e8
      have hck := hcell i h
      rw [Nat.zero_add] at hck
      have hzb : (((l[i]'h).toNat : Int) == 0) = true := by rw [hzz]; rfl
      clear hcell hz hzz
      go_wp2
      go_round
      case rel => exact ⟨i + 1, by go_num, by omega, Lib.hid (by rw [HSt.out, HS.out])⟩
      case measure => simp [intOf]; omega
    · have hfin : Hid (l.drop i = stripZ l) := Lib.hid (by rw [← HS.out, rint_end l i hz])
      by_cases h : i < l.length
      · obtain ⟨b8, o8, c8, e8, _, _, hcell⟩ := HR.out.posB (by omega)
        simp only [Value.slice.injEq, Option.some.injEq, Addr.mk.injEq] at e8
        obtain ⟨⟨rfl, rfl, _⟩, _, rfl⟩ := e8
        have hck := hcell i h
        rw [Nat.zero_add] at hck
        have hzb : (((l[i]'h).toNat : Int) == 0) = false := by
          rw [beq_eq_false_iff_ne]; exact fun e => hz ⟨h, by omega⟩
        clear hcell hz
        go_upto_region 5 with (fail)
        clear hck hzb
        have h0 : 0 < l.length := by omega
        obtain ⟨b8, o8, c8, e8, _, _, hcell⟩ := HR.out.posB h0
        simp only [Value.slice.injEq, Option.some.injEq, Addr.mk.injEq] at e8
        obtain ⟨⟨rfl, rfl, _⟩, _, rfl⟩ := e8
        have hc0 := hcell 0 h0
        rw [Nat.zero_add] at hc0
        obtain ⟨u, hu⟩ : ∃ u, u = l[0]'h0 := ⟨_, rfl⟩
        rw [← hu] at hc0
        have HHU : Hid (hiB l = decide ((128 : Int) ≤ (u.toNat : Int))) := Lib.hid (by
          cases l with
          | nil => simp at h0
          | cons a r => simp only [hiB, hu, List.getElem_cons_zero]; rw [decide_eq_decide]; omega)
        have G0 : ∀ w' : World, Kp0 w2 w' → w'.cell? ⟨B, 0, none⟩ = some (.int .u8 (u.toNat : Int)) := fun w' h => h.cell hc0 (fun h => h)
        clear hcell hu hc0
        by_cases hh : (128 : Int) ≤ (u.toNat : Int)
        · have HIs : Hid (intS st = ([], none)) := Lib.hid (by rw [HI.out, if_neg (fun h => by rw [HHU.out, decide_eq_false_iff_not] at h; exact h.1 hh)])
          refine wp_region_planS (fun w' : World => Kp0 w2 w') [(0, true), (1, true), (2, true), (3, true), (4, true), (5, true), (6, true), (7, true), (8, true), (9, true), (10, true), (13, true), (14, true), (11, false), (12, true), (15, false), (16, true), (17, true), (18, true)] (by kernel_rfl) (by kernel_rfl) (by kernel_rfl) (by kernel_rfl) (fun _ d _ _ _ h => by cases d <;> exact h) (Kp.refl _ _).drew ?_
          simp only [List.map_cons, List.map_nil, List.getElem?_toArray, List.getElem?_cons_zero, List.getElem?_cons_succ, Option.getD_some]
          repeat (first
                  | (refine planS_quiet (v := ?_) (by rfl) (fun wq hwq => ?_) ?_; rotate_left 1; (focus (go_simp; try (with_reducible rfl); done)); simp only [Act.put, List.setIfInBounds_toArray, List.set_cons_zero, List.set_cons_succ])
                  | (refine planS_skip (by rfl) ?_; simp only [Act.put, List.setIfInBounds_toArray, List.set_cons_zero, List.set_cons_succ]))
          refine planS_nil ?_
          clear G0
          have HCX : Hid (Cs w2.drew c v lb (textS st).2) := Lib.hid (HC2.out.keep (Kp.refl (fun _ => False) w2).drew (fun h => h) (fun _ _ _ h => h))
          obtain ⟨hcf, hkf, hfz⟩ := HCX.out.fail
          have hbad := HCX.out.bad
          have HCF := Lib.hid hcf
          have HKF := Lib.hid hkf
          clear hcf hkf
          go_wp2
          all_goals go_ret
          all_goals rw [HIs.out]
          all_goals exact ⟨_, rfl, Rd.nil _, HCF.out, (HK.out.tr (HK2.out.drew.nil _)).tr HKF.out, by simp [Value.ownBlock]⟩
        · have HH : Hid (hiB l = false) := Lib.hid (by rw [HHU.out, decide_eq_false_iff_not]; exact hh)
          have HT2 : Hid ((⟨l.toArray⟩ : ByteArray).toList = l) := Lib.hid (ByteArray.toList_mk l)
          obtain ⟨t2, ht2⟩ : ∃ t2 : ByteArray, t2 = ⟨l.toArray⟩ := ⟨_, rfl⟩
          rw [← ht2] at HT2
          have hcv2 : ∀ w' : World, Kp0 w2 w' → (convert 22 9 (.slice (some ⟨B, 0, none⟩) l.length cap)).run Tryd.prog w' = .ok (.string t2) w' := fun w' hw => by
            rw [ht2]
            exact run_string_of 22 5 9 Tryd.underlying22 Tryd.underlying5 Tryd.underlying9 (HR.out.keep0 hw)
          have HTT := Lib.hid ht2
          obtain ⟨sz1, hs1x⟩ : ∃ sz1 : ByteArray, sz1 = ⟨(encInt l).toArray⟩ := ⟨_, rfl⟩
          obtain ⟨sz2, hs2x⟩ : ∃ sz2 : ByteArray, sz2 = ⟨(encText l).toArray⟩ := ⟨_, rfl⟩
          have HS1 := Lib.hid hs1x
          have HS2 := Lib.hid hs2x
          by_cases hsig : signed (stripZ l) = l
          · have HIs : Hid (intS st = (stripZ l, (textS st).2)) := Lib.hid (by rw [HI.out, if_pos ⟨HH.out, hsig⟩])
            obtain rfl : sz1 = sz2 := by rw [hs1x, hs2x]; unfold encInt; rw [hsig]
            clear hs1x hs2x hsig ht2
            refine wp_region_planS (fun w' : World => Kp0 w2 w') [(0, true), (1, true), (2, true), (3, true), (4, true), (5, true), (6, true), (7, true), (8, true), (9, true), (10, true), (13, true), (14, true), (11, false), (12, true), (15, false), (16, true), (17, true), (18, true)] (by kernel_rfl) (by kernel_rfl) (by kernel_rfl) (by kernel_rfl) (fun _ d _ _ _ h => by cases d <;> exact h) (Kp.refl _ _).drew ?_
            simp only [List.map_cons, List.map_nil, List.getElem?_toArray, List.getElem?_cons_zero, List.getElem?_cons_succ, Option.getD_some]
            repeat (first
                    | (refine planS_quiet (v := ?_) (by rfl) (fun wq hwq => ?_) ?_; rotate_left 1; (focus (go_simp; try (with_reducible rfl); done)); simp only [Act.put, List.setIfInBounds_toArray, List.set_cons_zero, List.set_cons_succ])
                    | (refine planS_skip (by rfl) ?_; simp only [Act.put, List.setIfInBounds_toArray, List.set_cons_zero, List.set_cons_succ]))
            refine planS_eff (by rfl) (fun K hK => ?_)
            go_simp
            refine (rint_any _ l w2.drew HR.out (by omega)).mono ?_
            rintro e w3 ⟨v3, rfl, ho3, hk3⟩
            simp only []
            have HO3 := Lib.hid ho3.rd
            have hcv3 : ∀ w' : World, Kp0 w3 w' → (convert 22 9 v3).run Tryd.prog w' = .ok (.string sz1) w' := fun w' hw => by
              rw [HS1.out]
              exact run_string_of 22 5 9 Tryd.underlying22 Tryd.underlying5 Tryd.underlying9 (HO3.out.keep0 hw)
            have K3 : Hid (Kp0 w2 w3) := Lib.hid ((Kp.refl _ w2).drew.tr hk3)
            refine hK (fun w' : World => Kp0 w3 w') _ _ (fun x hx => K3.out.tr hx) (Kp.refl _ _) ?_
            clear hK K ho3 hk3
            repeat (first
                    | (refine planS_quiet (v := ?_) (by rfl) (fun wq hwq => ?_) ?_; rotate_left 1; (focus (go_simp; try (with_reducible rfl); done)); simp only [Act.put, List.setIfInBounds_toArray, List.set_cons_zero, List.set_cons_succ])
                    | (refine planS_skip (by rfl) ?_; simp only [Act.put, List.setIfInBounds_toArray, List.set_cons_zero, List.set_cons_succ]))
            refine planS_eff (by rfl) (fun K hK => ?_)
            go_simp
            refine (rtext_any t2 w3 (by rw [← size_toList, HT2.out]; omega)).mono ?_
            rw [HT2.out]
            rintro e w4 ⟨v4, rfl, ho4, hk4⟩
            simp only []
            have HO4 := Lib.hid ho4.rd
            have hcv4 : ∀ w' : World, Kp0 w4 w' → (convert 22 9 v4).run Tryd.prog w' = .ok (.string sz1) w' := fun w' hw => by
              rw [HS2.out]
              exact run_string_of 22 5 9 Tryd.underlying22 Tryd.underlying5 Tryd.underlying9 (HO4.out.keep0 hw)
            have K4 := Lib.hid (K3.out.tr hk4)
            refine hK (fun w' : World => Kp0 w4 w') _ _ (fun x hx => hk4.tr hx) (Kp.refl _ _) ?_
            clear hK K ho4 hk4 hcv3
            repeat (first
                    | (refine planS_quiet (v := ?_) (by rfl) (fun wq hwq => ?_) ?_; rotate_left 1; (focus (go_simp; try (with_reducible rfl); done)); simp only [Act.put, List.setIfInBounds_toArray, List.set_cons_zero, List.set_cons_succ])
                    | (refine planS_skip (by rfl) ?_; simp only [Act.put, List.setIfInBounds_toArray, List.set_cons_zero, List.set_cons_succ]))
            refine planS_nil ?_
            clear hcv4 hcv2
            have HCX : Hid (Cs w4 c v lb (textS st).2) := Lib.hid (HC2.out.keep K4.out (fun h => h) (fun _ _ _ h => h))
            have hrd := (HR.out.keep0 K4.out).cut i l.length cap hi (Nat.le_refl _) hcap1 (Nat.le_refl _)
            have e : ((bys l).drop i).take (l.length - i) = bys (stripZ l) := by
              rw [← hfin.out, List.take_of_length_le (by simp [bys])]
              simp [bys]
            rw [e] at hrd
            have HRD := Lib.hid hrd
            clear hrd e
            by_cases hck : cap = i
            · subst hck
              go_wp2
              all_goals go_ret
              all_goals rw [HIs.out]
              all_goals exact ⟨_, rfl, by simpa [sliced, show l.length - cap = 0 by omega] using HRD.out, HCX.out, HK.out.tr ((HK2.out.tr K4.out).nil _), by intro g hg; have := HBB.out; have hg2 : (some B : Option Nat) = some g := hg; simp at hg2; omega⟩
            · go_wp2
              all_goals go_ret
              all_goals rw [HIs.out]
              all_goals exact ⟨_, rfl, by simpa [sliced, hck, Addr.add_lit] using HRD.out, HCX.out, HK.out.tr ((HK2.out.tr K4.out).nil _), by intro g hg; have := HBB.out; have hg2 : (some B : Option Nat) = some g := hg; simp at hg2; omega⟩
          · have HIs : Hid (intS st = ([], none)) := Lib.hid (by rw [HI.out, if_neg (fun h => hsig h.2)])
            have hne : ¬ sz1 = sz2 := fun e => hsig (encText_inj (by
              have := congrArg ByteArray.toList e
              rwa [hs1x, hs2x, ByteArray.toList_mk, ByteArray.toList_mk] at this))
            have hbe : (sz1.toList == sz2.toList) = false := beq_eq_false_iff_ne.2 (fun e => hne (str_ext e))
            clear hne
            clear hs1x hs2x hsig ht2
            refine wp_region_planS (fun w' : World => Kp0 w2 w') [(0, true), (1, true), (2, true), (3, true), (4, true), (5, true), (6, true), (7, true), (8, true), (9, true), (10, true), (13, true), (14, true), (11, false), (12, true), (15, false), (16, true), (17, true), (18, true)] (by kernel_rfl) (by kernel_rfl) (by kernel_rfl) (by kernel_rfl) (fun _ d _ _ _ h => by cases d <;> exact h) (Kp.refl _ _).drew ?_
            simp only [List.map_cons, List.map_nil, List.getElem?_toArray, List.getElem?_cons_zero, List.getElem?_cons_succ, Option.getD_some]
            repeat (first
                    | (refine planS_quiet (v := ?_) (by rfl) (fun wq hwq => ?_) ?_; rotate_left 1; (focus (go_simp; try (with_reducible rfl); done)); simp only [Act.put, List.setIfInBounds_toArray, List.set_cons_zero, List.set_cons_succ])
                    | (refine planS_skip (by rfl) ?_; simp only [Act.put, List.setIfInBounds_toArray, List.set_cons_zero, List.set_cons_succ]))
            refine planS_eff (by rfl) (fun K hK => ?_)
            go_simp
            refine (rint_any _ l w2.drew HR.out (by omega)).mono ?_
            rintro e w3 ⟨v3, rfl, ho3, hk3⟩
            simp only []
            have HO3 := Lib.hid ho3.rd
            have hcv3 : ∀ w' : World, Kp0 w3 w' → (convert 22 9 v3).run Tryd.prog w' = .ok (.string sz1) w' := fun w' hw => by
              rw [HS1.out]
              exact run_string_of 22 5 9 Tryd.underlying22 Tryd.underlying5 Tryd.underlying9 (HO3.out.keep0 hw)
            have K3 : Hid (Kp0 w2 w3) := Lib.hid ((Kp.refl _ w2).drew.tr hk3)
            refine hK (fun w' : World => Kp0 w3 w') _ _ (fun x hx => K3.out.tr hx) (Kp.refl _ _) ?_
            clear hK K ho3 hk3
            repeat (first
                    | (refine planS_quiet (v := ?_) (by rfl) (fun wq hwq => ?_) ?_; rotate_left 1; (focus (go_simp; try (with_reducible rfl); done)); simp only [Act.put, List.setIfInBounds_toArray, List.set_cons_zero, List.set_cons_succ])
                    | (refine planS_skip (by rfl) ?_; simp only [Act.put, List.setIfInBounds_toArray, List.set_cons_zero, List.set_cons_succ]))
            refine planS_eff (by rfl) (fun K hK => ?_)
            go_simp
            refine (rtext_any t2 w3 (by rw [← size_toList, HT2.out]; omega)).mono ?_
            rw [HT2.out]
            rintro e w4 ⟨v4, rfl, ho4, hk4⟩
            simp only []
            have HO4 := Lib.hid ho4.rd
            have hcv4 : ∀ w' : World, Kp0 w4 w' → (convert 22 9 v4).run Tryd.prog w' = .ok (.string sz2) w' := fun w' hw => by
              rw [HS2.out]
              exact run_string_of 22 5 9 Tryd.underlying22 Tryd.underlying5 Tryd.underlying9 (HO4.out.keep0 hw)
            have K4 := Lib.hid (K3.out.tr hk4)
            refine hK (fun w' : World => Kp0 w4 w') _ _ (fun x hx => hk4.tr hx) (Kp.refl _ _) ?_
            clear hK K ho4 hk4 hcv3
            repeat (first
                    | (refine planS_quiet (v := ?_) (by rfl) (fun wq hwq => ?_) ?_; rotate_left 1; (focus (go_simp; try (with_reducible rfl); done)); simp only [Act.put, List.setIfInBounds_toArray, List.set_cons_zero, List.set_cons_succ])
                    | (refine planS_skip (by rfl) ?_; simp only [Act.put, List.setIfInBounds_toArray, List.set_cons_zero, List.set_cons_succ]))
            refine planS_nil ?_
            clear hcv4
            have HCX : Hid (Cs w4 c v lb (textS st).2) := Lib.hid (HC2.out.keep K4.out (fun h => h) (fun _ _ _ h => h))
            obtain ⟨hcf, hkf, hfz⟩ := HCX.out.fail
            have hbad := HCX.out.bad
            have HCF := Lib.hid hcf
            have HKF := Lib.hid hkf
            clear hcf hkf
            go_wp2
            all_goals go_ret
            all_goals rw [HIs.out]
            all_goals exact ⟨_, rfl, Rd.nil _, HCF.out, (HK.out.tr ((HK2.out.tr K4.out).nil _)).tr HKF.out, by simp [Value.ownBlock]⟩
      · clear hz
        go_upto_region 5 with (fail)
        by_cases h0 : 0 < l.length
        · obtain ⟨b8, o8, c8, e8, _, _, hcell⟩ := HR.out.posB h0
          simp only [Value.slice.injEq, Option.some.injEq, Addr.mk.injEq] at e8
          obtain ⟨⟨rfl, rfl, _⟩, _, rfl⟩ := e8
          have hc0 := hcell 0 h0
          rw [Nat.zero_add] at hc0
          obtain ⟨u, hu⟩ : ∃ u, u = l[0]'h0 := ⟨_, rfl⟩
          rw [← hu] at hc0
          have HHU : Hid (hiB l = decide ((128 : Int) ≤ (u.toNat : Int))) := Lib.hid (by
            cases l with
            | nil => simp at h0
            | cons a r => simp only [hiB, hu, List.getElem_cons_zero]; rw [decide_eq_decide]; omega)
          have G0 : ∀ w' : World, Kp0 w2 w' → w'.cell? ⟨B, 0, none⟩ = some (.int .u8 (u.toNat : Int)) := fun w' h => h.cell hc0 (fun h => h)
          clear hcell hu hc0
          by_cases hh : (128 : Int) ≤ (u.toNat : Int)
          · have HIs : Hid (intS st = ([], none)) := Lib.hid (by rw [HI.out, if_neg (fun h => by rw [HHU.out, decide_eq_false_iff_not] at h; exact h.1 hh)])
            refine wp_region_planS (fun w' : World => Kp0 w2 w') [(0, true), (1, true), (2, true), (3, true), (4, true), (5, true), (6, true), (7, true), (8, true), (9, true), (10, true), (13, true), (14, true), (11, false), (12, true), (15, false), (16, true), (17, true), (18, true)] (by kernel_rfl) (by kernel_rfl) (by kernel_rfl) (by kernel_rfl) (fun _ d _ _ _ h => by cases d <;> exact h) (Kp.refl _ _).drew ?_
            simp only [List.map_cons, List.map_nil, List.getElem?_toArray, List.getElem?_cons_zero, List.getElem?_cons_succ, Option.getD_some]
            repeat (first
                    | (refine planS_quiet (v := ?_) (by rfl) (fun wq hwq => ?_) ?_; rotate_left 1; (focus (go_simp; try (with_reducible rfl); done)); simp only [Act.put, List.setIfInBounds_toArray, List.set_cons_zero, List.set_cons_succ])
                    | (refine planS_skip (by rfl) ?_; simp only [Act.put, List.setIfInBounds_toArray, List.set_cons_zero, List.set_cons_succ]))
            refine planS_nil ?_
            clear G0
            have HCX : Hid (Cs w2.drew c v lb (textS st).2) := Lib.hid (HC2.out.keep (Kp.refl (fun _ => False) w2).drew (fun h => h) (fun _ _ _ h => h))
            obtain ⟨hcf, hkf, hfz⟩ := HCX.out.fail
            have hbad := HCX.out.bad
            have HCF := Lib.hid hcf
            have HKF := Lib.hid hkf
            clear hcf hkf
            go_wp2
            all_goals go_ret
            all_goals rw [HIs.out]
            all_goals exact ⟨_, rfl, Rd.nil _, HCF.out, (HK.out.tr (HK2.out.drew.nil _)).tr HKF.out, by simp [Value.ownBlock]⟩
          · have HH : Hid (hiB l = false) := Lib.hid (by rw [HHU.out, decide_eq_false_iff_not]; exact hh)
            have HT2 : Hid ((⟨l.toArray⟩ : ByteArray).toList = l) := Lib.hid (ByteArray.toList_mk l)
            obtain ⟨t2, ht2⟩ : ∃ t2 : ByteArray, t2 = ⟨l.toArray⟩ := ⟨_, rfl⟩
            rw [← ht2] at HT2
            have hcv2 : ∀ w' : World, Kp0 w2 w' → (convert 22 9 (.slice (some ⟨B, 0, none⟩) l.length cap)).run Tryd.prog w' = .ok (.string t2) w' := fun w' hw => by
              rw [ht2]
              exact run_string_of 22 5 9 Tryd.underlying22 Tryd.underlying5 Tryd.underlying9 (HR.out.keep0 hw)
            have HTT := Lib.hid ht2
            obtain ⟨sz1, hs1x⟩ : ∃ sz1 : ByteArray, sz1 = ⟨(encInt l).toArray⟩ := ⟨_, rfl⟩
            obtain ⟨sz2, hs2x⟩ : ∃ sz2 : ByteArray, sz2 = ⟨(encText l).toArray⟩ := ⟨_, rfl⟩
            have HS1 := Lib.hid hs1x
            have HS2 := Lib.hid hs2x
            by_cases hsig : signed (stripZ l) = l
            · have HIs : Hid (intS st = (stripZ l, (textS st).2)) := Lib.hid (by rw [HI.out, if_pos ⟨HH.out, hsig⟩])
              obtain rfl : sz1 = sz2 := by rw [hs1x, hs2x]; unfold encInt; rw [hsig]
              clear hs1x hs2x hsig ht2
              refine wp_region_planS (fun w' : World => Kp0 w2 w') [(0, true), (1, true), (2, true), (3, true), (4, true), (5, true), (6, true), (7, true), (8, true), (9, true), (10, true), (13, true), (14, true), (11, false), (12, true), (15, false), (16, true), (17, true), (18, true)] (by kernel_rfl) (by kernel_rfl) (by kernel_rfl) (by kernel_rfl) (fun _ d _ _ _ h => by cases d <;> exact h) (Kp.refl _ _).drew ?_
              simp only [List.map_cons, List.map_nil, List.getElem?_toArray, List.getElem?_cons_zero, List.getElem?_cons_succ, Option.getD_some]
              repeat (first
                      | (refine planS_quiet (v := ?_) (by rfl) (fun wq hwq => ?_) ?_; rotate_left 1; (focus (go_simp; try (with_reducible rfl); done)); simp only [Act.put, List.setIfInBounds_toArray, List.set_cons_zero, List.set_cons_succ])
                      | (refine planS_skip (by rfl) ?_; simp only [Act.put, List.setIfInBounds_toArray, List.set_cons_zero, List.set_cons_succ]))
              refine planS_eff (by rfl) (fun K hK => ?_)
              go_simp
              refine (rint_any _ l w2.drew HR.out (by omega)).mono ?_
              rintro e w3 ⟨v3, rfl, ho3, hk3⟩
              simp only []
              have HO3 := Lib.hid ho3.rd
              have hcv3 : ∀ w' : World, Kp0 w3 w' → (convert 22 9 v3).run Tryd.prog w' = .ok (.string sz1) w' := fun w' hw => by
                rw [HS1.out]
                exact run_string_of 22 5 9 Tryd.underlying22 Tryd.underlying5 Tryd.underlying9 (HO3.out.keep0 hw)
              have K3 : Hid (Kp0 w2 w3) := Lib.hid ((Kp.refl _ w2).drew.tr hk3)
              refine hK (fun w' : World => Kp0 w3 w') _ _ (fun x hx => K3.out.tr hx) (Kp.refl _ _) ?_
              clear hK K ho3 hk3
              repeat (first
                      | (refine planS_quiet (v := ?_) (by rfl) (fun wq hwq => ?_) ?_; rotate_left 1; (focus (go_simp; try (with_reducible rfl); done)); simp only [Act.put, List.setIfInBounds_toArray, List.set_cons_zero, List.set_cons_succ])
                      | (refine planS_skip (by rfl) ?_; simp only [Act.put, List.setIfInBounds_toArray, List.set_cons_zero, List.set_cons_succ]))
              refine planS_eff (by rfl) (fun K hK => ?_)
              go_simp
              refine (rtext_any t2 w3 (by rw [← size_toList, HT2.out]; omega)).mono ?_
              rw [HT2.out]
              rintro e w4 ⟨v4, rfl, ho4, hk4⟩
              simp only []
              have HO4 := Lib.hid ho4.rd
              have hcv4 : ∀ w' : World, Kp0 w4 w' → (convert 22 9 v4).run Tryd.prog w' = .ok (.string sz1) w' := fun w' hw => by
                rw [HS2.out]
                exact run_string_of 22 5 9 Tryd.underlying22 Tryd.underlying5 Tryd.underlying9 (HO4.out.keep0 hw)
              have K4 := Lib.hid (K3.out.tr hk4)
              refine hK (fun w' : World => Kp0 w4 w') _ _ (fun x hx => hk4.tr hx) (Kp.refl _ _) ?_
              clear hK K ho4 hk4 hcv3
              repeat (first
                      | (refine planS_quiet (v := ?_) (by rfl) (fun wq hwq => ?_) ?_; rotate_left 1; (focus (go_simp; try (with_reducible rfl); done)); simp only [Act.put, List.setIfInBounds_toArray, List.set_cons_zero, List.set_cons_succ])
                      | (refine planS_skip (by rfl) ?_; simp only [Act.put, List.setIfInBounds_toArray, List.set_cons_zero, List.set_cons_succ]))
              refine planS_nil ?_
              clear hcv4 hcv2
              have HCX : Hid (Cs w4 c v lb (textS st).2) := Lib.hid (HC2.out.keep K4.out (fun h => h) (fun _ _ _ h => h))
              have hrd := (HR.out.keep0 K4.out).cut i l.length cap hi (Nat.le_refl _) hcap1 (Nat.le_refl _)
              have e : ((bys l).drop i).take (l.length - i) = bys (stripZ l) := by
                rw [← hfin.out, List.take_of_length_le (by simp [bys])]
                simp [bys]
              rw [e] at hrd
              have HRD := Lib.hid hrd
              clear hrd e
              by_cases hck : cap = i
              · subst hck
                go_wp2
                all_goals go_ret
                all_goals rw [HIs.out]
                all_goals exact ⟨_, rfl, by simpa [sliced, show l.length - cap = 0 by omega] using HRD.out, HCX.out, HK.out.tr ((HK2.out.tr K4.out).nil _), by intro g hg; have := HBB.out; have hg2 : (some B : Option Nat) = some g := hg; simp at hg2; omega⟩
              · go_wp2
                all_goals go_ret
                all_goals rw [HIs.out]
                all_goals exact ⟨_, rfl, by simpa [sliced, hck, Addr.add_lit] using HRD.out, HCX.out, HK.out.tr ((HK2.out.tr K4.out).nil _), by intro g hg; have := HBB.out; have hg2 : (some B : Option Nat) = some g := hg; simp at hg2; omega⟩
            · have HIs : Hid (intS st = ([], none)) := Lib.hid (by rw [HI.out, if_neg (fun h => hsig h.2)])
              have hne : ¬ sz1 = sz2 := fun e => hsig (encText_inj (by
                have := congrArg ByteArray.toList e
                rwa [hs1x, hs2x, ByteArray.toList_mk, ByteArray.toList_mk] at this))
              have hbe : (sz1.toList == sz2.toList) = false := beq_eq_false_iff_ne.2 (fun e => hne (str_ext e))
              clear hne
              clear hs1x hs2x hsig ht2
              refine wp_region_planS (fun w' : World => Kp0 w2 w') [(0, true), (1, true), (2, true), (3, true), (4, true), (5, true), (6, true), (7, true), (8, true), (9, true), (10, true), (13, true), (14, true), (11, false), (12, true), (15, false), (16, true), (17, true), (18, true)] (by kernel_rfl) (by kernel_rfl) (by kernel_rfl) (by kernel_rfl) (fun _ d _ _ _ h => by cases d <;> exact h) (Kp.refl _ _).drew ?_
              simp only [List.map_cons, List.map_nil, List.getElem?_toArray, List.getElem?_cons_zero, List.getElem?_cons_succ, Option.getD_some]
              repeat (first
                      | (refine planS_quiet (v := ?_) (by rfl) (fun wq hwq => ?_) ?_; rotate_left 1; (focus (go_simp; try (with_reducible rfl); done)); simp only [Act.put, List.setIfInBounds_toArray, List.set_cons_zero, List.set_cons_succ])
                      | (refine planS_skip (by rfl) ?_; simp only [Act.put, List.setIfInBounds_toArray, List.set_cons_zero, List.set_cons_succ]))
              refine planS_eff (by rfl) (fun K hK => ?_)
              go_simp
              refine (rint_any _ l w2.drew HR.out (by omega)).mono ?_
              rintro e w3 ⟨v3, rfl, ho3, hk3⟩
              simp only []
              have HO3 := Lib.hid ho3.rd
              have hcv3 : ∀ w' : World, Kp0 w3 w' → (convert 22 9 v3).run Tryd.prog w' = .ok (.string sz1) w' := fun w' hw => by
                rw [HS1.out]
                exact run_string_of 22 5 9 Tryd.underlying22 Tryd.underlying5 Tryd.underlying9 (HO3.out.keep0 hw)
              have K3 : Hid (Kp0 w2 w3) := Lib.hid ((Kp.refl _ w2).drew.tr hk3)
              refine hK (fun w' : World => Kp0 w3 w') _ _ (fun x hx => K3.out.tr hx) (Kp.refl _ _) ?_
              clear hK K ho3 hk3
              repeat (first
                      | (refine planS_quiet (v := ?_) (by rfl) (fun wq hwq => ?_) ?_; rotate_left 1; (focus (go_simp; try (with_reducible rfl); done)); simp only [Act.put, List.setIfInBounds_toArray, List.set_cons_zero, List.set_cons_succ])
                      | (refine planS_skip (by rfl) ?_; simp only [Act.put, List.setIfInBounds_toArray, List.set_cons_zero, List.set_cons_succ]))
              refine planS_eff (by rfl) (fun K hK => ?_)
              go_simp
              refine (rtext_any t2 w3 (by rw [← size_toList, HT2.out]; omega)).mono ?_
              rw [HT2.out]
              rintro e w4 ⟨v4, rfl, ho4, hk4⟩
              simp only []
              have HO4 := Lib.hid ho4.rd
              have hcv4 : ∀ w' : World, Kp0 w4 w' → (convert 22 9 v4).run Tryd.prog w' = .ok (.string sz2) w' := fun w' hw => by
                rw [HS2.out]
                exact run_string_of 22 5 9 Tryd.underlying22 Tryd.underlying5 Tryd.underlying9 (HO4.out.keep0 hw)
              have K4 := Lib.hid (K3.out.tr hk4)
              refine hK (fun w' : World => Kp0 w4 w') _ _ (fun x hx => hk4.tr hx) (Kp.refl _ _) ?_
              clear hK K ho4 hk4 hcv3
              repeat (first
                      | (refine planS_quiet (v := ?_) (by rfl) (fun wq hwq => ?_) ?_; rotate_left 1; (focus (go_simp; try (with_reducible rfl); done)); simp only [Act.put, List.setIfInBounds_toArray, List.set_cons_zero, List.set_cons_succ])
                      | (refine planS_skip (by rfl) ?_; simp only [Act.put, List.setIfInBounds_toArray, List.set_cons_zero, List.set_cons_succ]))
              refine planS_nil ?_
              clear hcv4
              have HCX : Hid (Cs w4 c v lb (textS st).2) := Lib.hid (HC2.out.keep K4.out (fun h => h) (fun _ _ _ h => h))
              obtain ⟨hcf, hkf, hfz⟩ := HCX.out.fail
              have hbad := HCX.out.bad
              have HCF := Lib.hid hcf
              have HKF := Lib.hid hkf
              clear hcf hkf
              go_wp2
              all_goals go_ret
              all_goals rw [HIs.out]
              all_goals exact ⟨_, rfl, Rd.nil _, HCF.out, (HK.out.tr ((HK2.out.tr K4.out).nil _)).tr HKF.out, by simp [Value.ownBlock]⟩
        · have HH : Hid (hiB l = false) := Lib.hid (by
            cases l with
            | nil => rfl
            | cons a r => simp at h0)
          rcases Nat.lt_or_ge i l.length with hil | hil
          · exact absurd (by omega) h0
          · clear hil
            have HT2 : Hid ((⟨l.toArray⟩ : ByteArray).toList = l) := Lib.hid (ByteArray.toList_mk l)
            obtain ⟨t2, ht2⟩ : ∃ t2 : ByteArray, t2 = ⟨l.toArray⟩ := ⟨_, rfl⟩
            rw [← ht2] at HT2
            have hcv2 : ∀ w' : World, Kp0 w2 w' → (convert 22 9 (.slice (some ⟨B, 0, none⟩) l.length cap)).run Tryd.prog w' = .ok (.string t2) w' := fun w' hw => by
              rw [ht2]
              exact run_string_of 22 5 9 Tryd.underlying22 Tryd.underlying5 Tryd.underlying9 (HR.out.keep0 hw)
            have HTT := Lib.hid ht2
            obtain ⟨sz1, hs1x⟩ : ∃ sz1 : ByteArray, sz1 = ⟨(encInt l).toArray⟩ := ⟨_, rfl⟩
            obtain ⟨sz2, hs2x⟩ : ∃ sz2 : ByteArray, sz2 = ⟨(encText l).toArray⟩ := ⟨_, rfl⟩
            have HS1 := Lib.hid hs1x
            have HS2 := Lib.hid hs2x
            by_cases hsig : signed (stripZ l) = l
            · have HIs : Hid (intS st = (stripZ l, (textS st).2)) := Lib.hid (by rw [HI.out, if_pos ⟨HH.out, hsig⟩])
              obtain rfl : sz1 = sz2 := by rw [hs1x, hs2x]; unfold encInt; rw [hsig]
              clear hs1x hs2x hsig ht2
              refine wp_region_planS (fun w' : World => Kp0 w2 w') [(0, true), (1, true), (2, true), (3, true), (4, true), (5, true), (6, true), (7, true), (8, true), (9, true), (10, true), (13, true), (14, true), (11, false), (12, true), (15, false), (16, true), (17, true), (18, true)] (by kernel_rfl) (by kernel_rfl) (by kernel_rfl) (by kernel_rfl) (fun _ d _ _ _ h => by cases d <;> exact h) (Kp.refl _ _).drew ?_
              simp only [List.map_cons, List.map_nil, List.getElem?_toArray, List.getElem?_cons_zero, List.getElem?_cons_succ, Option.getD_some]
              repeat (first
                      | (refine planS_quiet (v := ?_) (by rfl) (fun wq hwq => ?_) ?_; rotate_left 1; (focus (go_simp; try (with_reducible rfl); done)); simp only [Act.put, List.setIfInBounds_toArray, List.set_cons_zero, List.set_cons_succ])
                      | (refine planS_skip (by rfl) ?_; simp only [Act.put, List.setIfInBounds_toArray, List.set_cons_zero, List.set_cons_succ]))
              refine planS_eff (by rfl) (fun K hK => ?_)
              go_simp
              refine (rint_any _ l w2.drew HR.out (by omega)).mono ?_
              rintro e w3 ⟨v3, rfl, ho3, hk3⟩
              simp only []
              have HO3 := Lib.hid ho3.rd
              have hcv3 : ∀ w' : World, Kp0 w3 w' → (convert 22 9 v3).run Tryd.prog w' = .ok (.string sz1) w' := fun w' hw => by
                rw [HS1.out]
                exact run_string_of 22 5 9 Tryd.underlying22 Tryd.underlying5 Tryd.underlying9 (HO3.out.keep0 hw)
              have K3 : Hid (Kp0 w2 w3) := Lib.hid ((Kp.refl _ w2).drew.tr hk3)
              refine hK (fun w' : World => Kp0 w3 w') _ _ (fun x hx => K3.out.tr hx) (Kp.refl _ _) ?_
              clear hK K ho3 hk3
              repeat (first
                      | (refine planS_quiet (v := ?_) (by rfl) (fun wq hwq => ?_) ?_; rotate_left 1; (focus (go_simp; try (with_reducible rfl); done)); simp only [Act.put, List.setIfInBounds_toArray, List.set_cons_zero, List.set_cons_succ])
                      | (refine planS_skip (by rfl) ?_; simp only [Act.put, List.setIfInBounds_toArray, List.set_cons_zero, List.set_cons_succ]))
              refine planS_eff (by rfl) (fun K hK => ?_)
              go_simp
              refine (rtext_any t2 w3 (by rw [← size_toList, HT2.out]; omega)).mono ?_
              rw [HT2.out]
              rintro e w4 ⟨v4, rfl, ho4, hk4⟩
              simp only []
              have HO4 := Lib.hid ho4.rd
              have hcv4 : ∀ w' : World, Kp0 w4 w' → (convert 22 9 v4).run Tryd.prog w' = .ok (.string sz1) w' := fun w' hw => by
                rw [HS2.out]
                exact run_string_of 22 5 9 Tryd.underlying22 Tryd.underlying5 Tryd.underlying9 (HO4.out.keep0 hw)
              have K4 := Lib.hid (K3.out.tr hk4)
              refine hK (fun w' : World => Kp0 w4 w') _ _ (fun x hx => hk4.tr hx) (Kp.refl _ _) ?_
              clear hK K ho4 hk4 hcv3
              repeat (first
                      | (refine planS_quiet (v := ?_) (by rfl) (fun wq hwq => ?_) ?_; rotate_left 1; (focus (go_simp; try (with_reducible rfl); done)); simp only [Act.put, List.setIfInBounds_toArray, List.set_cons_zero, List.set_cons_succ])
                      | (refine planS_skip (by rfl) ?_; simp only [Act.put, List.setIfInBounds_toArray, List.set_cons_zero, List.set_cons_succ]))
              refine planS_nil ?_
              clear hcv4 hcv2
              have HCX : Hid (Cs w4 c v lb (textS st).2) := Lib.hid (HC2.out.keep K4.out (fun h => h) (fun _ _ _ h => h))
              have hrd := (HR.out.keep0 K4.out).cut i l.length cap hi (Nat.le_refl _) hcap1 (Nat.le_refl _)
              have e : ((bys l).drop i).take (l.length - i) = bys (stripZ l) := by
                rw [← hfin.out, List.take_of_length_le (by simp [bys])]
                simp [bys]
              rw [e] at hrd
              have HRD := Lib.hid hrd
              clear hrd e
              by_cases hck : cap = i
              · subst hck
                go_wp2
                all_goals go_ret
                all_goals rw [HIs.out]
                all_goals exact ⟨_, rfl, by simpa [sliced, show l.length - cap = 0 by omega] using HRD.out, HCX.out, HK.out.tr ((HK2.out.tr K4.out).nil _), by intro g hg; have := HBB.out; have hg2 : (some B : Option Nat) = some g := hg; simp at hg2; omega⟩
              · go_wp2
                all_goals go_ret
                all_goals rw [HIs.out]
                all_goals exact ⟨_, rfl, by simpa [sliced, hck, Addr.add_lit] using HRD.out, HCX.out, HK.out.tr ((HK2.out.tr K4.out).nil _), by intro g hg; have := HBB.out; have hg2 : (some B : Option Nat) = some g := hg; simp at hg2; omega⟩
            · have HIs : Hid (intS st = ([], none)) := Lib.hid (by rw [HI.out, if_neg (fun h => hsig h.2)])
              have hne : ¬ sz1 = sz2 := fun e => hsig (encText_inj (by
                have := congrArg ByteArray.toList e
                rwa [hs1x, hs2x, ByteArray.toList_mk, ByteArray.toList_mk] at this))
              have hbe : (sz1.toList == sz2.toList) = false := beq_eq_false_iff_ne.2 (fun e => hne (str_ext e))
              clear hne
              clear hs1x hs2x hsig ht2
              refine wp_region_planS (fun w' : World => Kp0 w2 w') [(0, true), (1, true), (2, true), (3, true), (4, true), (5, true), (6, true), (7, true), (8, true), (9, true), (10, true), (13, true), (14, true), (11, false), (12, true), (15, false), (16, true), (17, true), (18, true)] (by kernel_rfl) (by kernel_rfl) (by kernel_rfl) (by kernel_rfl) (fun _ d _ _ _ h => by cases d <;> exact h) (Kp.refl _ _).drew ?_
              simp only [List.map_cons, List.map_nil, List.getElem?_toArray, List.getElem?_cons_zero, List.getElem?_cons_succ, Option.getD_some]
              repeat (first
                      | (refine planS_quiet (v := ?_) (by rfl) (fun wq hwq => ?_) ?_; rotate_left 1; (focus (go_simp; try (with_reducible rfl); done)); simp only [Act.put, List.setIfInBounds_toArray, List.set_cons_zero, List.set_cons_succ])
                      | (refine planS_skip (by rfl) ?_; simp only [Act.put, List.setIfInBounds_toArray, List.set_cons_zero, List.set_cons_succ]))
              refine planS_eff (by rfl) (fun K hK => ?_)
              go_simp
              refine (rint_any _ l w2.drew HR.out (by omega)).mono ?_
              rintro e w3 ⟨v3, rfl, ho3, hk3⟩
              simp only []
              have HO3 := Lib.hid ho3.rd
              have hcv3 : ∀ w' : World, Kp0 w3 w' → (convert 22 9 v3).run Tryd.prog w' = .ok (.string sz1) w' := fun w' hw => by
                rw [HS1.out]
                exact run_string_of 22 5 9 Tryd.underlying22 Tryd.underlying5 Tryd.underlying9 (HO3.out.keep0 hw)
              have K3 : Hid (Kp0 w2 w3) := Lib.hid ((Kp.refl _ w2).drew.tr hk3)
              refine hK (fun w' : World => Kp0 w3 w') _ _ (fun x hx => K3.out.tr hx) (Kp.refl _ _) ?_
              clear hK K ho3 hk3
              repeat (first
                      | (refine planS_quiet (v := ?_) (by rfl) (fun wq hwq => ?_) ?_; rotate_left 1; (focus (go_simp; try (with_reducible rfl); done)); simp only [Act.put, List.setIfInBounds_toArray, List.set_cons_zero, List.set_cons_succ])
                      | (refine planS_skip (by rfl) ?_; simp only [Act.put, List.setIfInBounds_toArray, List.set_cons_zero, List.set_cons_succ]))
              refine planS_eff (by rfl) (fun K hK => ?_)
              go_simp
              refine (rtext_any t2 w3 (by rw [← size_toList, HT2.out]; omega)).mono ?_
              rw [HT2.out]
              rintro e w4 ⟨v4, rfl, ho4, hk4⟩
              simp only []
              have HO4 := Lib.hid ho4.rd
              have hcv4 : ∀ w' : World, Kp0 w4 w' → (convert 22 9 v4).run Tryd.prog w' = .ok (.string sz2) w' := fun w' hw => by
                rw [HS2.out]
                exact run_string_of 22 5 9 Tryd.underlying22 Tryd.underlying5 Tryd.underlying9 (HO4.out.keep0 hw)
              have K4 := Lib.hid (K3.out.tr hk4)
              refine hK (fun w' : World => Kp0 w4 w') _ _ (fun x hx => hk4.tr hx) (Kp.refl _ _) ?_
              clear hK K ho4 hk4 hcv3
              repeat (first
                      | (refine planS_quiet (v := ?_) (by rfl) (fun wq hwq => ?_) ?_; rotate_left 1; (focus (go_simp; try (with_reducible rfl); done)); simp only [Act.put, List.setIfInBounds_toArray, List.set_cons_zero, List.set_cons_succ])
                      | (refine planS_skip (by rfl) ?_; simp only [Act.put, List.setIfInBounds_toArray, List.set_cons_zero, List.set_cons_succ]))
              refine planS_nil ?_
              clear hcv4
              have HCX : Hid (Cs w4 c v lb (textS st).2) := Lib.hid (HC2.out.keep K4.out (fun h => h) (fun _ _ _ h => h))
              obtain ⟨hcf, hkf, hfz⟩ := HCX.out.fail
              have hbad := HCX.out.bad
              have HCF := Lib.hid hcf
              have HKF := Lib.hid hkf
              clear hcf hkf
              go_wp2
              all_goals go_ret
              all_goals rw [HIs.out]
              all_goals exact ⟨_, rfl, Rd.nil _, HCF.out, (HK.out.tr ((HK2.out.tr K4.out).nil _)).tr HKF.out, by simp [Value.ownBlock]⟩
end Go.Proofs.YtigghfbochemgaaDoor
