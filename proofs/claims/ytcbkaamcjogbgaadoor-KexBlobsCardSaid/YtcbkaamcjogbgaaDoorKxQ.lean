/- The document's line; the law KexBlobs: its walk. -/
import Derived.Test.YtcbkaamcjogbgaaDoorKxP
namespace Go.Proofs.YtcbkaamcjogbgaaDoor
open Go Go.RowKit
theorem lineH_data : lineH.data.toList = [83, 83, 72, 45, 50, 46, 48, 45] := rfl
theorem prefix_take : ∀ (p l : List UInt8), Lib.hasPrefix l p = (l.take p.length == p)
  | [], l => by simp [Lib.hasPrefix]
  | x :: p, [] => by simp [Lib.hasPrefix]
  | x :: p, y :: l => by
    have ih := prefix_take p l
    unfold Lib.hasPrefix at ih ⊢
    simp only [List.isPrefixOf, List.length_cons, List.take_succ_cons, ih]
    rw [Bool.eq_iff_iff]
    simp only [Bool.and_eq_true, beq_iff_eq, List.cons.injEq]
    exact ⟨fun h => ⟨h.1.symm, h.2⟩, fun h => ⟨h.1.symm, h.2⟩⟩
theorem any_take {l : List UInt8} {k : Nat} (hk : k < l.length) (h : (l.take k).any badC = false) (hx : badC (l[k]'hk) = false) : (l.take (k + 1)).any badC = false := by
  rw [List.take_succ_eq_append_getElem hk, List.any_append, h]
  simp [hx]
theorem any_hit {l : List UInt8} {k : Nat} (hk : k < l.length) (hx : badC (l[k]'hk) = true) : l.any badC = true := List.any_eq_true.2 ⟨_, List.getElem_mem hk, hx⟩
set_option maxRecDepth 20000 in
set_option maxHeartbeats 2000000 in
theorem refLine_any (s : ByteArray) (w : World) : Calls Tryd.prog 25 #[.string s] w fun e w' => e = .returned (.string (lineS s)) ∧ Kp0 w w' := by
  have hsl := size_toList s
  have HSL := Lib.hid hsl
  have HO : Hid (lineOk s = (decide (s.size ≤ 100) && (s.toList.take 8 == [83, 83, 72, 45, 50, 46, 48, 45]) && !(s.toList.any badC))) := Lib.hid (by
    unfold lineOk
    rw [prefix_take, lineH_data, ← ByteArray.toList_eq]
    rfl)
  have HE8 : Hid ((s.extract 0 8).toList = s.toList.take 8) := Lib.hid (by rw [extract_toList]; rfl)
  by_cases h0 : s.size < 8
  · have i0 : (s.size : Int) < 8 := by omega
    have HN : Hid (lineS s = .empty) := Lib.hid (lineS_no (by
      rw [HO.out]
      have : (s.toList.take 8 == [83, 83, 72, 45, 50, 46, 48, 45]) = false := by
        rw [beq_eq_false_iff_ne]
        intro e
        have := congrArg List.length e
        rw [List.length_take] at this
        simp at this
        omega
      rw [this]; simp))
    clear hsl
    go_enter Tryd.func25, Tryd.ntmps25
    go_wp2
    go_ret
    exact ⟨by rw [HN.out]; rfl, Kp.refl _ _⟩
  · have i0 : ¬ (s.size : Int) < 8 := by omega
    by_cases h1 : 100 < s.size
    · have i1 : (100 : Int) < (s.size : Int) := by omega
      have HN : Hid (lineS s = .empty) := Lib.hid (lineS_no (by rw [HO.out, decide_eq_false (by omega)]; rfl))
      clear hsl
      go_enter Tryd.func25, Tryd.ntmps25
      go_wp2
      go_ret
      exact ⟨by rw [HN.out]; rfl, Kp.refl _ _⟩
    · have i1 : ¬ (100 : Int) < (s.size : Int) := by omega
      have HD : Hid (decide (s.size ≤ 100) = true) := Lib.hid (decide_eq_true (by omega))
      have i8 : (8 : Int) ≤ (s.size : Int) := by omega
      obtain ⟨p, hp⟩ : ∃ p, p = (s.toList.take 8 == [83, 83, 72, 45, 50, 46, 48, 45]) := ⟨_, rfl⟩
      rw [← hp] at HO
      cases p
      · have hx : ((s.extract 0 8).toList == [83, 83, 72, 45, 50, 46, 48, 45]) = false := by rw [HE8.out]; exact hp.symm
        have HN : Hid (lineS s = .empty) := Lib.hid (lineS_no (by rw [HO.out, HD.out]; rfl))
        clear hsl hp
        go_enter Tryd.func25, Tryd.ntmps25
        go_wp2
        go_ret
        exact ⟨by rw [HN.out]; rfl, Kp.refl _ _⟩
      · have hx : ((s.extract 0 8).toList == [83, 83, 72, 45, 50, 46, 48, 45]) = true := by rw [HE8.out]; exact hp.symm
        clear hsl hp
        go_enter Tryd.func25, Tryd.ntmps25
        go_wp2
        go_loopw [3] (fun i wr => ∃ k : Nat, i = .int .i64 k ∧ k ≤ s.size ∧ Hid ((s.toList.take k).any badC = false) ∧ Kp0 w wr) (fun i _ => s.size - (intOf i).toNat)
        case atStart => exact ⟨0, rfl, Nat.zero_le _, Lib.hid rfl, Kp.refl _ _⟩
        case round =>
          obtain ⟨k, rfl, hk, HB, hkp⟩ := hrel
          have HK := Lib.hid hkp
          clear hkp
          by_cases h : k < s.size
          · have j1 : (k : Int) < (s.size : Int) := by omega
            have hj : k < s.toList.length := by rw [HSL.out]; exact h
            have HC : Hid (s.toList[k]'hj = s[k]'h) := Lib.hid (by
              have h3 : s.toList = s.data.toList := ByteArray.toList_eq s
              simp only [h3]
              rfl)
            have HBC : Hid (badC (s[k]'h) = (decide ((s[k]'h).toNat < 32) || decide (126 < (s[k]'h).toNat))) := Lib.hid rfl
            by_cases c1 : (s[k]'h).toNat < 32
            · have d1 : (((s[k]'h).toNat : Nat) : Int) < 32 := by omega
              have HN : Hid (lineS s = .empty) := Lib.hid (lineS_no (by rw [HO.out, HD.out, any_hit hj (by rw [HC.out, HBC.out, decide_eq_true c1]; rfl)]; rfl))
              go_wp2
              go_ret
              exact ⟨by rw [HN.out]; rfl, HK.out⟩
            · have d1 : ¬ (((s[k]'h).toNat : Nat) : Int) < 32 := by omega
              by_cases c2 : 126 < (s[k]'h).toNat
              · have d2 : (126 : Int) < (((s[k]'h).toNat : Nat) : Int) := by omega
                have HN : Hid (lineS s = .empty) := Lib.hid (lineS_no (by rw [HO.out, HD.out, any_hit hj (by rw [HC.out, HBC.out, decide_eq_true c2]; simp)]; rfl))
                go_wp2
                go_ret
                exact ⟨by rw [HN.out]; rfl, HK.out⟩
              · have d2 : ¬ (126 : Int) < (((s[k]'h).toNat : Nat) : Int) := by omega
                have HNB : Hid (badC (s.toList[k]'hj) = false) := Lib.hid (by rw [HC.out, HBC.out, decide_eq_false c1, decide_eq_false c2]; rfl)
                go_wp2
                go_roundw
                case rel => exact ⟨k + 1, by go_num, by omega, Lib.hid (any_take hj HB.out HNB.out), HK.out⟩
                case measure => simp [intOf]; omega
          · have HN : Hid (lineS s = s) := Lib.hid (lineS_yes (by
              have := HB.out
              rw [List.take_of_length_le (by rw [HSL.out]; omega)] at this
              rw [HO.out, HD.out, this]; rfl))
            go_wp2
            go_ret
            exact ⟨by rw [HN.out]; rfl, HK.out⟩
theorem wl_bytes_want {P : Program} {w : World} {ops : Array Oper} {rest : List Oper} {o : Oper} {a : Act} {Q : Exit → Act → World → Prop} (hw : Region.wanted o (yielded ops a.tmps) = true) (x : Operand) (src dst e : TypeId) (ho : o.op = .convert src dst x)
    (hs : P.underlying src = some .string) (hd : P.underlying dst = some (.slice e)) (he : P.underlying e = some (.int .u8)) (s : ByteArray) (hx : a.eval x = .string s) (hl : s.size ≤ 9223372036854775807)
    (h : ∀ cap w', Rd w' (.slice (some ⟨w.heap.size, 0, none⟩) s.size cap) (bys s.toList) → Kp0 w w' → wpList P ops Q rest (a.put o.dst (.slice (some ⟨w.heap.size, 0, none⟩) s.size cap)) w') :
    wpList P ops Q (o :: rest) a w := by
  refine wpList_step fun K hK => ?_
  rw [if_pos hw]
  have hrun := run_bytes_of_string (P := P) w src dst e s hs hd he
  have hrd := fun fz => Rd.of_str w s e fz (grownCap w s.size 0 e) (grownCap_ge _ _ _ _) (grownCap_le_maxLen _ _ _ _ (by unfold maxLen; omega))
  unfold Oper.wp
  simp only [execOp, ho, hx, Sem.run_bind, hrun, Result.andThen_ok, Sem.run_pure]
  exact hK _ _ (h _ _ (hrd _) ((Kp.refl _ w).drew.alloc _))
theorem toldB_len (l : List UInt8) : (toldB l).length = l.length + 19 := by
  unfold toldB
  rw [List.length_append, encText_len, encText_len, size_toList, ownE_size]
  omega
theorem eq_of {a b : ByteArray} {l : List UInt8} (ha : a.toList = l) (hb : b.toList = l) : (a.toList == b.toList) = true := by rw [ha, hb]; simp
set_option maxRecDepth 20000 in
set_option maxHeartbeats 8000000 in
theorem kblobs_walk (s t : ByteArray) (w : World) (hq : Sqd w) (hc : Cub w) (hg : Gm w) :
    Calls Tryd.prog 5 #[.string s, .string t] w fun e w' => e = .returned (.bool true) ∧ Kp0 w w' := by
  have HQ := Lib.hid hq
  have HC := Lib.hid hc
  have HG := Lib.hid hg
  clear hq hc hg
  by_cases h1 : 1000 < s.size
  · have i1 : (1000 : Int) < (s.size : Int) := by omega
    go_enter Tryd.func5, Tryd.ntmps5
    go_wp2_with (go_at_call 9; refine (fit_any _ HQ.out HC.out HG.out).mono ?_; rintro e w1 ⟨rfl, hk1⟩; have HK1 := Lib.hid hk1; clear hk1)
    go_ret
    exact ⟨rfl, HK1.out⟩
  · have i1 : ¬ (1000 : Int) < (s.size : Int) := by omega
    by_cases h2 : 1000 < t.size
    · have i2 : (1000 : Int) < (t.size : Int) := by omega
      go_enter Tryd.func5, Tryd.ntmps5
      go_wp2_with (go_at_call 9; refine (fit_any _ HQ.out HC.out HG.out).mono ?_; rintro e w1 ⟨rfl, hk1⟩; have HK1 := Lib.hid hk1; clear hk1)
      go_ret
      exact ⟨rfl, HK1.out⟩
    · have i2 : ¬ (1000 : Int) < (t.size : Int) := by omega
      have HS := Lib.hid h1
      have HT := Lib.hid h2
      clear h1 h2
      go_enter Tryd.func5, Tryd.ntmps5
      go_upto_region 7 with (first
        | (go_at_call 9; refine (fit_any _ HQ.out HC.out HG.out).mono ?_; rintro e w1 ⟨rfl, hk1⟩; have HK1 := Lib.hid hk1; clear hk1)
        | (go_at_call 18; refine (blob_any s _ (by have := HS.out; omega)).mono ?_; rintro e w2 ⟨t2, rfl, ht2, hk⟩; have HT2 := Lib.hid ht2; have HK2 := Lib.hid (HK1.out.tr hk); clear hk ht2)
        | (go_at_call 19; refine (refBlob_any s _ (by have := HS.out; omega)).mono ?_; rintro e w3 ⟨t3, rfl, ht3, hk⟩; have he := eq_of HT2.out ht3; have HK3 := Lib.hid (HK2.out.tr hk); clear hk ht3 HK2)
        | (refine wl_bytes_want (by rfl) (.tmp 23) 9 24 5 rfl Tryd.underlying9 Tryd.underlying24 Tryd.underlying5 s rfl (by have := HS.out; omega) ?_
           intro cap w4 hrd hk4
           have HR4 := Lib.hid hrd
           have HK4 : Hid (Kp0 w w4) := Lib.hid (HK3.out.tr hk4)
           clear hrd hk4)
        | (go_at_call 20; refine (signature_any _ s.toList _ HR4.out (by rw [size_toList]; have := HS.out; omega)).mono ?_; rintro e w5 ⟨t5, rfl, ht5, hk⟩; have HT5 := Lib.hid ht5; have HK5 := Lib.hid (HK4.out.tr hk); clear hk ht5)
        | (go_at_call 19; refine (refBlob_any s _ (by have := HS.out; omega)).mono ?_; rintro e w6 ⟨t6, rfl, ht6, hk⟩; have he2 := eq_of HT5.out ht6; have HK6 := Lib.hid (HK5.out.tr hk); clear hk ht6 HK5))
      clear HT2 HT5 HR4 HK4 HK3
      go_upto_region 8 with (go_at_call 19; refine (refBlob_any s _ (by have := HS.out; omega)).mono ?_; rintro e w7 ⟨t7, rfl, ht7, hk⟩; have HT7 : Hid (t7.size ≤ 2000) := Lib.hid (by rw [← size_toList, ht7, toldB_len, size_toList]; have := HS.out; omega); have HK7 := Lib.hid (HK6.out.tr hk); clear hk ht7)
      have HBL : Hid (Blk (w7.alloc (.cells #[.string t7, .string t] 9)) w7.heap.size 9 [.string t7, .string t]) := Lib.hid (blk0 w7 _ _)
      have HK8 := Lib.hid (HK7.out.alloc (.cells #[.string t7, .string t] 9))
      obtain ⟨gl, hgl⟩ : ∃ x, x = w7.heap.size := ⟨_, rfl⟩
      rw [← hgl] at HBL ⊢
      clear hgl
      generalize w7.alloc (.cells #[.string t7, .string t] 9) = w8 at HBL HK8 ⊢
      clear he he2
      go_loopw [35] (fun i wr => ∃ k : Nat, i = .int .i64 k ∧ k ≤ 2 ∧ Hid (Kp0 w8 wr)) (fun i _ => 2 - (intOf i).toNat)
      case atStart => exact ⟨0, rfl, Nat.zero_le _, Lib.hid (Kp.refl _ _)⟩
      case round =>
        obtain ⟨k, rfl, hk, HKR⟩ := hrel
        by_cases h : k < 2
        · have hk2 : (k : Int) < 2 := by omega
          obtain ⟨x, hcx, HX⟩ : ∃ x : ByteArray, wr.cell? ⟨gl, k, none⟩ = some (.string x) ∧ Hid (x.size ≤ 2000) := by
            have hb := HBL.out.kp0 HKR.out
            have hx : k = 0 ∨ k = 1 := by omega
            rcases hx with rfl | rfl
            · exact ⟨t7, hb.cellV 0 rfl, HT7⟩
            · exact ⟨t, hb.cellV 1 rfl, Lib.hid (by have := HT.out; omega)⟩
          have HXB : Hid (x.size ≤ 140737488351232) := Lib.hid (by have := HX.out; omega)
          go_upto_region 10 with (fail)
          refine wp_region_px 12 [] (fun w' : World => Kp0 wr.drew w') (.quiet 0 (.quiet 2 (.eff 1 (.eff 3 (.quiet 4 (.quiet 5 (.quiet 6 (.quiet 9 (.eff 7 (.quiet 8 (.eff 10 (.quiet 11 (.quiet 12 .done))))))))))))) (by kernel_rfl) (by kernel_rfl) (by kernel_rfl) (by kernel_rfl) (fun _ d _ _ _ h => by cases d <;> exact h) (Kp.refl _ _) ?_
          have HKD : Hid (Kp0 w8 wr.drew) := Lib.hid HKR.out.drew
          generalize wr.drew = wd at HKD ⊢
          iterate 2 (refine px_quiet (v := ?_) rfl (by rfl) (fun wq hwq => ?_) rfl ?_; rotate_left 1; (focus (clear hwq; go_simp; with_reducible rfl)); try simp only [List.setIfInBounds_toArray, List.set_cons_zero, List.set_cons_succ])
          refine px_eff rfl (by rfl) (fun K hK => ?_)
          go_simp
          refine (readBlob_any x _ HXB.out).mono ?_
          rintro e w9 ⟨r1, rfl, hr1, hk9⟩
          have HR1 := Lib.hid hr1
          have HK9 := Lib.hid (HKD.out.tr hk9)
          simp only []
          refine hK (fun w' : World => Kp0 w9 w') _ _ (fun x hx => hk9.tr hx) (Kp.refl _ _) ?_
          clear hK K hk9 hr1
          refine px_eff rfl (by rfl) (fun K hK => ?_)
          go_simp
          refine (unblob_any x 32 _ HXB.out).mono ?_
          rintro e w10 ⟨r2, rfl, hr2, hk10⟩
          have he12 := eq_of HR1.out hr2
          have HK10 := Lib.hid (HK9.out.tr hk10)
          simp only []
          refine hK (fun w' : World => Kp0 w10 w') _ _ (fun x hx => hk10.tr hx) (Kp.refl _ _) ?_
          clear hK K hk10 hr2
          iterate 4 (refine px_quiet (v := ?_) rfl (by rfl) (fun wq hwq => ?_) rfl ?_; rotate_left 1; (focus (clear hwq; go_simp; with_reducible rfl)); try simp only [List.setIfInBounds_toArray, List.set_cons_zero, List.set_cons_succ])
          refine px_eff rfl (by rfl) (fun K hK => ?_)
          go_simp
          refine (readSig_any x _ HXB.out).mono ?_
          rintro e w11 ⟨v3, rfl, hr3, hk11⟩
          obtain ⟨a3, c3, rfl, -, -, -⟩ := hr3.shapeB
          have HR3 := Lib.hid hr3
          have HK11 := Lib.hid (HK10.out.tr hk11)
          simp only []
          refine hK (fun w' : World => Kp0 w11 w') _ _ (fun x hx => hk11.tr hx) (Kp.refl _ _) ?_
          clear hK K hk11 hr3
          obtain ⟨z, hz⟩ : ∃ z : ByteArray, z = ⟨(readT x.toList 64).toArray⟩ := ⟨_, rfl⟩
          have HZL : Hid (z.toList = readT x.toList 64) := Lib.hid (by rw [hz]; exact ByteArray.toList_mk _)
          have hcv : ∀ w' : World, Kp0 w11 w' → (convert 24 9 (.slice a3 (readT x.toList 64).length c3)).run Tryd.prog w' = .ok (.string z) w' := fun w' hw => by
            rw [hz]
            exact run_string_of 24 5 9 Tryd.underlying24 Tryd.underlying5 Tryd.underlying9 (HR3.out.keep0 hw)
          clear hz
          refine px_quiet (v := ?_) rfl (by rfl) (fun wq hwq => ?_) rfl ?_
          rotate_left 1
          · have hq := hcv _ hwq
            go_simp
            with_reducible rfl
          try simp only [List.setIfInBounds_toArray, List.set_cons_zero, List.set_cons_succ]
          clear hcv
          refine px_eff rfl (by rfl) (fun K hK => ?_)
          go_simp
          refine (unblob_any x 64 _ HXB.out).mono ?_
          rintro e w12 ⟨r4, rfl, hr4, hk12⟩
          have he34 := eq_of HZL.out hr4
          have HK12 := Lib.hid (HK11.out.tr hk12)
          simp only []
          refine hK (fun w' : World => Kp0 w12 w') _ _ (fun x hx => hk12.tr hx) (Kp.refl _ _) ?_
          clear hK K hk12 hr4
          iterate 2 (refine px_quiet (v := ?_) rfl (by rfl) (fun wq hwq => ?_) rfl ?_; rotate_left 1; (focus (clear hwq; go_simp; with_reducible rfl)); try simp only [List.setIfInBounds_toArray, List.set_cons_zero, List.set_cons_succ])
          refine px_done ?_
          go_wp2
          go_roundw
          case rel => exact ⟨k + 1, by go_num, by omega, HK12⟩
          case measure => simp [intOf]; omega
        · obtain rfl : k = 2 := by omega
          have HKE := Lib.hid (HK8.out.tr HKR.out)
          clear HK8 HKR HBL
          obtain ⟨la, hla⟩ : ∃ x, x = lineS s := ⟨_, rfl⟩
          have HLA := Lib.hid hla
          clear hla
          have ha := beq_self_eq_true la.toList
          obtain ⟨sc, hsc⟩ : ∃ x : ByteArray, x = ({ data := #[83, 83, 72, 45, 50, 46, 48, 45] } : ByteArray) ++ s := ⟨_, rfl⟩
          have HSC := Lib.hid hsc
          clear hsc
          obtain ⟨lb, hlb⟩ : ∃ x, x = lineS sc := ⟨_, rfl⟩
          have HLB := Lib.hid hlb
          clear hlb
          have hb := beq_self_eq_true lb.toList
          go_wp2_with (first
            | (go_at_call 24; have hq0 := HKE; clear hq0; refine (line_any s _).mono ?_; rw [← HLA.out]; rintro e w9 ⟨rfl, hk⟩; have HK9 := Lib.hid (HKE.out.tr hk); clear hk HKE)
            | (go_at_call 25; have hq0 := HK9; clear hq0; refine (refLine_any s _).mono ?_; rw [← HLA.out]; rintro e w10 ⟨rfl, hk⟩; have HK10 := Lib.hid (HK9.out.tr hk); clear hk HK9 HLA)
            | (go_at_call 24; rw [← HSC.out]; refine (line_any sc _).mono ?_; rw [← HLB.out]; rintro e w11 ⟨rfl, hk⟩; have HK11 := Lib.hid (HK10.out.tr hk); clear hk HK10)
            | (go_at_call 25; rw [← HSC.out]; refine (refLine_any sc _).mono ?_; rw [← HLB.out]; rintro e w12 ⟨rfl, hk⟩; have HK12 := Lib.hid (HK11.out.tr hk); clear hk HK11 HLB))
          go_ret
          exact ⟨rfl, HK12.out⟩
end Go.Proofs.YtcbkaamcjogbgaaDoor
