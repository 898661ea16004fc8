/- Package chans: flow. -/
import Derived.Test.YtbifdckmkogbgaaChC
namespace Go.Proofs.Ytbifdckmkogbgaa
open Go Go.RowKit
def tx (l : List UInt8) : ByteArray := ⟨l.toArray⟩
theorem tx_list (l : List UInt8) : (tx l).toList = l := ByteArray.toList_mk l
theorem tx_size (l : List UInt8) : (tx l).size = l.length := by rw [← size_toList, tx_list]
theorem cv_tx {w : World} {v : Value} {l : List UInt8} (h : Rd w v (bys l)) : (convert 33 9 v).run Try.prog w = .ok (.string (tx l)) w :=
  run_string_of 33 5 9 Try.underlying33 Try.underlying5 Try.underlying9 h
theorem Rd.take {w : World} {ao : Option Addr} {n cap : Nat} {xs : List Value} (h : Rd w (.slice ao n cap) xs) (k : Nat) (hk : k ≤ n) : Rd w (.slice ao k cap) (xs.take k) := by
  obtain ⟨ao', cap', e, h1, h2, h3, h4⟩ := h
  simp only [Value.slice.injEq] at e
  obtain ⟨rfl, rfl, rfl⟩ := e
  refine ⟨ao, cap, by rw [List.length_take, Nat.min_eq_left hk], by rw [List.length_take]; omega, h2, h3, fun ad e i u hu => ?_⟩
  rw [List.getElem?_take] at hu
  split at hu
  · exact h4 ad e i u hu
  · cases hu
structure FlowOk (c : Ch) : Prop where
  mo1 : 1 ≤ c.mo
  mo : c.mo ≤ 2147483647
  wi : c.wi ≤ 2147483647
  nu : c.nu < 4294967296
  wa : c.wa.length ≤ 30000000
  out : c.out.length + c.wa.length ≤ 80000000
theorem FlowOk.step {c : Ch} (h : FlowOk c) (hf : flows c = true) : FlowOk (flow1 c) := by
  have hp := flowN_pos hf h.mo1
  have h1 := flow1_wa c
  have h2 := h.wa
  have h3 := h.out
  refine ⟨h.mo1, h.mo, ?_, h.nu, by omega, ?_⟩
  · show c.wi - flowN c ≤ _
    have := h.wi
    omega
  · show (c.out ++ [_]).length + _ ≤ _
    rw [List.length_append, List.length_singleton]
    omega
structure FlowI (B b : Nat) (F : Nat → Prop) (w wr : World) (c0 c : Ch) : Prop where
  cm : ∃ F', Cm B wr b F' c ∧ (∀ i, F' i → F i ∨ w.heap.size ≤ i) ∧ Kp F w wr
  eq : flowS c = flowS c0
  ok : FlowOk c
theorem flows_len {c : Ch} (h : c.wa.length = 0) : flows c = false := by unfold flows; rw [List.eq_nil_of_length_eq_zero h]; rfl
theorem flows_wi {c : Ch} (h : c.wi = 0) : flows c = false := by unfold flows; rw [h]; simp
theorem flows_cl {c : Ch} (h : c.cl = true) : flows c = false := by unfold flows; rw [h]; simp
theorem flows_yes {c : Ch} (h1 : 0 < c.wa.length) (h2 : 0 < c.wi) (h3 : c.cl = false) : flows c = true := by
  unfold flows
  rw [h3, decide_eq_true h2]
  have : c.wa ≠ [] := List.length_pos_iff.1 h1
  simpa using this
theorem FlowI.stop {B b : Nat} {F : Nat → Prop} {w wr : World} {c0 c : Ch} (h : FlowI B b F w wr c0 c) (hf : flows c = false) : DoneP B b F w (flowS c0) (.returned (.tuple #[])) wr := by
  obtain ⟨F', h1, h2, h3⟩ := h.cm
  rw [← h.eq, flowS_stop hf]
  exact ⟨rfl, F', h1, h2, h3⟩
/-- Waits cut off, the window made less. -/
theorem CmV.cutW {B : Nat} {w : World} {b : Nat} {F : Nat → Prop} {vw vc vo : Value} {rows : List Value} {c : Ch} (h : CmV B w b F vw vc vo rows c) (n : Nat) (hn : n ≤ c.wa.length) {v1 : Value} {ao : Option Addr} {cap : Nat} (hv : vw = .slice ao c.wa.length cap) (h1 : v1 = sliced ao n c.wa.length cap 1) :
    CmP B b F w { c with wa := c.wa.drop n, wi := c.wi - n } ((w.setCell ⟨b, 7, none⟩ v1).setCell ⟨b, 4, none⟩ (.int .i64 (c.wi - n : Nat))) := by
  subst hv h1
  have ho := h.ow.cut n hn
  rw [show (bys c.wa).drop n = bys (c.wa.drop n) by simp [bys]] at ho
  obtain ⟨F', ⟨vw', vc', vo', rows', hV⟩, hF, hk⟩ := h.setW (Kp.refl _ _) ho (fun g hg => .inl (Ow.cut_block g hg))
  have h2 := hV.set 4 (.int .i64 (c.wi - n : Nat)) { c with wa := c.wa.drop n, wi := c.wi - n } rfl rfl rfl rfl
  exact ⟨F', h2.1.cm, hF, hk.trans h2.2 (fun _ _ h => h) (fun i hi h3 => (hF i h3).elim id (fun h4 => by omega))⟩
set_option maxRecDepth 20000 in
set_option maxHeartbeats 4000000 in
theorem flow_any (B b : Nat) (F : Nat → Prop) (c0 : Ch) (w : World) (h : Cm B w b F c0) (hok : FlowOk c0) :
    Calls Try.prog 31 #[.pointer (some ⟨b, 0, none⟩)] w (DoneP B b F w (flowS c0)) := by
  have H0 : Hid (FlowI B b F w w c0 c0) := Lib.hid ⟨⟨F, h, fun _ h => .inl h, Kp.refl _ _⟩, rfl, hok⟩
  clear h hok
  go_enter Try.func31, Try.ntmps31
  go_wp2
  go_loopg [] c0.wa.length (fun gg wr => ∃ c, FlowI B b F w wr c0 c ∧ gg = c.wa.length)
  case atStart => exact ⟨c0, H0.out, rfl⟩
  case round =>
    obtain ⟨c, hi, rfl⟩ := hrel
    have HI := Lib.hid hi
    obtain ⟨F1, ⟨vw, vc, vo, rows, hV⟩, hF1, hK1⟩ := hi.cm
    have HV := Lib.hid hV
    have HF1 := Lib.hid hF1
    have HK1 := Lib.hid hK1
    have hc7 := hV.c7
    have hc4 := hV.c4
    have hc11 := hV.c11
    obtain ⟨ao, cap, hvw, hcap, hcap2, _⟩ := hV.ow.shapeB
    rw [hvw] at hc7
    have HVW := Lib.hid hvw
    have hwab := hi.ok.wa
    have hwib := hi.ok.wi
    clear H0 hi hF1 hK1 hV hvw
    obtain ⟨L, hL⟩ : ∃ L, L = c.wa.length := ⟨_, rfl⟩
    obtain ⟨wi, hwi⟩ : ∃ wi, wi = c.wi := ⟨_, rfl⟩
    obtain ⟨cl, hcl⟩ : ∃ cl, cl = c.cl := ⟨_, rfl⟩
    rw [← hL] at hc7 hwab hcap
    rw [← hwi] at hc4 hwib
    rw [← hcl] at hc11
    have HL := Lib.hid hL
    have HWI := Lib.hid hwi
    have HCL := Lib.hid hcl
    clear hL hwi hcl
    by_cases h1 : 0 < L
    · have h1i : (0 : Int) < L := by omega
      by_cases h2 : 0 < wi
      · have h2i : (0 : Int) < wi := by omega
        cases cl with
        | true =>
          have HS := Lib.hid (HI.out.stop (flows_cl HCL.out.symm))
          clear h1 h2
          go_wp2
          all_goals go_end0
          all_goals exact HS.out
        | false =>
          have HFY := Lib.hid (flows_yes (c := c) (by rw [← HL.out]; exact h1) (by rw [← HWI.out]; exact h2) HCL.out.symm)
          obtain ⟨mo, hmo⟩ : ∃ mo, mo = c.mo := ⟨_, rfl⟩
          obtain ⟨m1, hm1⟩ : ∃ m1, m1 = min L wi := ⟨_, rfl⟩
          obtain ⟨n, hn⟩ : ∃ n, n = min m1 mo := ⟨_, rfl⟩
          have hmob := HI.out.ok.mo
          have hmo1 := HI.out.ok.mo1
          have hc5 := HV.out.c5
          rw [← hmo] at hmob hmo1 hc5
          have hmi : (mo : Int) ≤ 2147483647 := by omega
          have hwi2 : (wi : Int) ≤ 2147483647 := by omega
          have hLi : (L : Int) ≤ 30000000 := by omega
          have hmin : (if (mo : Int) < (if wi < L then (wi : Int) else (L : Int)) then (mo : Int) else (if wi < L then (wi : Int) else (L : Int))) = (n : Int) := by
            split <;> split <;> omega
          have HMIN := Lib.hid hmin
          have HN : Hid (n = flowN c ∧ 1 ≤ n ∧ n ≤ L ∧ n ≤ wi ∧ n ≤ 2147483647) := Lib.hid (by
            unfold flowN
            rw [← HL.out, ← HWI.out, ← hmo]
            omega)
          have hni : (n : Int) ≤ L := by omega
          have hnw : (n : Int) ≤ wi := by omega
          have hn1 : (1 : Int) ≤ n := by omega
          clear hmo hm1 hn hmob hmo1 h1 h2 hwab hwib hmin
          go_upto_region 1 with (fail)
          go_quiet (fail)
          rename_i nq
          have HV2 := Lib.hid (HV.out.kp0 ((Kp.refl _ wr).drewN nq))
          have HK2 := Lib.hid (HK1.out.drewN nq)
          generalize (wr.drewN nq) = w2 at HV2 HK2 ⊢
          rw [HMIN.out]
          clear hc7 hc4 hc11 hc5 HV HK1 HMIN
          obtain ⟨gb, go, cp, hsv, hcp1, hcp2, _⟩ := HV2.out.ow.posB (by have := HL.out; have := HN.out; omega)
          rw [HVW.out] at hsv
          simp only [Value.slice.injEq] at hsv
          obtain ⟨rfl, -, rfl⟩ := hsv
          have HV3 := Lib.hid (HV2.out.kp0 (Kp.refl _ _).drew)
          have HD : Hid (Kp0 w2 w2.drew) := Lib.hid (Kp.refl _ _).drew
          have hcn : ¬ cap < n := by have := HN.out; omega
          have hnu := HI.out.ok.nu
          have HNU := Lib.hid hnu
          clear hnu hcap hcap2 hcp1 hcp2
          go_upto_region 2 with (fail)
          have hrd : Rd w2.drew (.slice (some ⟨gb, go, none⟩) n cap) (bys (c.wa.take n)) := by
            have h1 := HV3.out.ow.rd
            rw [HVW.out, ← HL.out] at h1
            have h2 := Rd.take h1 n (by have := HN.out; omega)
            rw [show (bys c.wa).take n = bys (c.wa.take n) by simp [bys]] at h2
            exact h2
          have HRD := Lib.hid hrd
          refine wp_region_px 13 [13] (fun w' : World => Kp0 w2.drew w') (.quiet 0 (.quiet 1 (.quiet 2 (.quiet 3 (.quiet 4 (.quiet 5 (.quiet 6 (.quiet 7 (.quiet 8 (.quiet 9 (.quiet 10 (.quiet 11 (.eff 12 (.wall 13 .done)))))))))))))) (by kernel_rfl) (by kernel_rfl) (by kernel_rfl) (by kernel_rfl) (fun _ d _ _ _ h => by cases d <;> exact h) (Kp.refl _ _) ?_
          clear hrd
          generalize w2.drew = wd at HV3 HD HRD ⊢
          iterate 10 (refine px_quiet (v := ?_) rfl (by rfl) (fun wq hwq => ?_) rfl ?_; rotate_left 1; (focus (have q3 := (HV3.out.kp0 hwq).c3; have q7 := (HV3.out.kp0 hwq).c7; rw [HVW.out, ← HL.out] at q7; have cvg := cv_tx (HRD.out.keep0 hwq); go_simp; try (with_reducible rfl); done)); try simp only [List.setIfInBounds_toArray, List.set_cons_zero, List.set_cons_succ])
          refine px_quiet (v := .slice (some ⟨gb, go, none⟩) n cap) rfl (by rfl) (fun wq hwq => ?_) rfl ?_
          · go_simp
          try simp only [List.setIfInBounds_toArray, List.set_cons_zero, List.set_cons_succ]
          refine px_quiet (v := .string (tx (c.wa.take n))) rfl (by rfl) (fun wq hwq => ?_) rfl ?_
          · have cvg := cv_tx (HRD.out.keep0 hwq)
            go_simp
          try simp only [List.setIfInBounds_toArray, List.set_cons_zero, List.set_cons_succ]
          refine px_eff rfl (by rfl) (fun K hK => ?_)
          go_simp
          refine (data_any _ c.nu (tx (c.wa.take n)) _ rfl HNU.out (by rw [tx_size, List.length_take]; omega)).mono ?_
          rintro e z1 ⟨v1, rfl, ho, hk⟩
          simp only []
          rw [tx_list, HN.out.1] at ho
          have HO := Lib.hid ho
          have HZ := Lib.hid hk
          clear ho hk
          refine hK (fun w' : World => Kp0 wd w') _ _ (fun x h => h) HZ.out ?_
          clear hK K
          refine px_wall rfl (by rfl) (fun K hK => ?_)
          go_simp
          refine (say_own B b F1 c v1 _ _ _ HV3.out.cm HZ.out HO.out (by have := HI.out.ok.out; omega)).mono ?_
          rintro e z2 ⟨rfl, hP⟩
          have HP := Lib.hid hP
          clear hP
          refine hK (fun _ => True) _ _ trivial ?_
          clear hK K
          refine px_done ?_
          obtain ⟨F2, ⟨vw2, vc2, vo2, rows2, hV2⟩, hF2, hK2'⟩ := HP.out
          obtain ⟨g2, o2, cap2, hsv, hcp1, hcp2, _⟩ := hV2.ow.posB (by show 0 < c.wa.length; have := HL.out; have := HN.out; omega)
          have hsv' : vw2 = .slice (some ⟨g2, o2, none⟩) c.wa.length cap2 := hsv
          have hcut := hV2.cutW n (by show n ≤ c.wa.length; have := HL.out; have := HN.out; omega) hsv' rfl
          have hall := CmP.trans HF1.out (HK2.out.tr (HD.out.nil F)) (CmP.trans hF2 hK2' hcut)
          have he : ({ sayS c (dataB c.nu (List.take (flowN c) c.wa)) with wa := (sayS c (dataB c.nu (List.take (flowN c) c.wa))).wa.drop n, wi := (sayS c (dataB c.nu (List.take (flowN c) c.wa))).wi - n } : Ch) = flow1 c := by
            rw [HN.out.1]
            rfl
          rw [he] at hall
          have hd7 := hV2.c7
          have hd4 : z2.cell? ⟨b, 4, none⟩ = some (.int .i64 wi) := by have := hV2.c4; rw [HWI.out]; exact this
          have hf7 := hV2.fz 7
          have hf4 := hV2.fz 4
          rw [hsv', ← HL.out] at hd7
          have hcp1' : L ≤ cap2 := by have := HL.out; have h3 : c.wa.length ≤ cap2 := hcp1; omega
          have HMS : Hid ((flow1 c).wa.length < c.wa.length) := Lib.hid (by rw [flow1_wa, ← HN.out.1, ← HL.out]; have := HN.out; omega)
          have HOK := Lib.hid (HI.out.ok.step HFY.out)
          have HEQ : Hid (flowS (flow1 c) = flowS c0) := Lib.hid ((flowS_step HFY.out HI.out.ok.mo1).symm.trans HI.out.eq)
          have HALL := Lib.hid hall
          have hwn : ((sayS c (dataB c.nu (List.take (flowN c) c.wa))).wi - n : Nat) = wi - n := by rw [HWI.out]; rfl
          have HWN := Lib.hid hwn
          obtain ⟨k, hk⟩ : ∃ k, k = wi - n := ⟨_, rfl⟩
          have hsub : (wi : Int) - (n : Int) = (k : Int) := by omega
          have HKK := Lib.hid hk
          clear hsv hcp1 hcp2 hcut hall he hV2 hsv' hwn hk hF2 hK2' HP
          by_cases hcn2 : cap2 = n
          · obtain rfl : n = L := by omega
            subst hcn2
            have HA2 : Hid (CmP B b F w (flow1 c) ((z2.setCell ⟨b, 7, none⟩ (.slice (some ⟨g2, o2, none⟩) 0 0)).setCell ⟨b, 4, none⟩ (.int .i64 (k : Int)))) := Lib.hid (by
              have h1 := HALL.out
              have hwl : (sayS c (dataB c.nu (List.take (flowN c) c.wa))).wa.length = _ := HL.out.symm
              rw [HWN.out, ← HKK.out, hwl] at h1
              have e : sliced (some ⟨g2, o2, none⟩) cap2 cap2 cap2 1 = .slice (some ⟨g2, o2, none⟩) 0 0 := by
                unfold sliced
                rw [if_pos rfl]
                simp
              rw [e] at h1
              exact h1)
            clear HALL hcp1'
            go_wp2
            go_roundg (flow1 c).wa.length
            case measure => exact HMS.out
            case rel => exact ⟨flow1 c, ⟨HA2.out, HEQ.out, HOK.out⟩, rfl⟩
          · have HA2 : Hid (CmP B b F w (flow1 c) ((z2.setCell ⟨b, 7, none⟩ (.slice (some ⟨g2, o2 + n, none⟩) (L - n) (cap2 - n))).setCell ⟨b, 4, none⟩ (.int .i64 (k : Int)))) := Lib.hid (by
              have h1 := HALL.out
              have hwl : (sayS c (dataB c.nu (List.take (flowN c) c.wa))).wa.length = _ := HL.out.symm
              rw [HWN.out, ← HKK.out, hwl] at h1
              have e : sliced (some ⟨g2, o2, none⟩) n L cap2 1 = .slice (some ⟨g2, o2 + n, none⟩) (L - n) (cap2 - n) := by
                unfold sliced
                rw [if_neg hcn2]
                simp [Addr.add_lit]
              rw [e] at h1
              exact h1)
            clear HALL
            go_wp2
            go_roundg (flow1 c).wa.length
            case measure => exact HMS.out
            case rel => exact ⟨flow1 c, ⟨HA2.out, HEQ.out, HOK.out⟩, rfl⟩
      · have h2i : ¬ (0 : Int) < wi := by omega
        have HS := Lib.hid (HI.out.stop (flows_wi (by have := HWI.out; omega)))
        clear h1 h2
        go_wp2
        all_goals go_end0
        all_goals exact HS.out
    · have h1i : ¬ (0 : Int) < L := by omega
      have HS := Lib.hid (HI.out.stop (flows_len (by have := HL.out; omega)))
      clear h1
      go_wp2
      all_goals go_end0
      all_goals exact HS.out
end Go.Proofs.Ytbifdckmkogbgaa
