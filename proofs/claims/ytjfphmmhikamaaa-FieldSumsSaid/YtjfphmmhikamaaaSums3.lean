/- The law FieldSums: its walk. -/
import Derived.Test.YtjfphmmhikamaaaReads3
import Derived.Test.YtjfphmmhikamaaaCameInts
namespace Go.Proofs.Ytjfphmmhikamaaa
open Go Go.RowKit
theorem wl_load_blkW {P : Program} {ops : Array Oper} {rest : List Oper} {op : Oper} {a : Act} {w : World} {Q : Exit → Act → World → Prop} (hw : Region.wanted op (yielded ops a.tmps) = true) (ty : TypeId) (x : Operand) (ho : op.op = .load ty x)
    (g : Nat) (T : TypeId) (cs : List Value) (hx : a.eval x = .pointer (some ⟨g, 0, none⟩)) (hA : Blk w g T cs) (d : TypeDesc)
    (hu : P.underlying ty = some d) (hd : d.isRow = true) (hi : (P.info? ty).map (·.size) = some cs.length)
    (h : wpList P ops Q rest (a.put op.dst (.agg cs.toArray)) w) : wpList P ops Q (op :: rest) a w := by
  rw [wpList, if_pos hw]
  exact .inl (wp_load_mid ty x ho g 0 hx cs d hA.range hu hd hi h)
variable {R : List Value → Nat → Prop}
set_option maxRecDepth 20000 in
set_option maxHeartbeats 4000000 in
theorem fsums_walk (F : Fld R) (va vb vk : Value) (la lb : List UInt8) (lk : List Int) (w : World) (hva : Rd w va (bys la)) (hvb : Rd w vb (bys lb)) (hvk : Rd w vk (ints lk)) (hoa : ∀ g, va.ownBlock = some g → g < w.heap.size) (hob : ∀ g, vb.ownBlock = some g → g < w.heap.size) :
    Calls Try.prog 6 #[va, vb, vk] w fun e w' => e = .returned (.bool true) ∧ Kp0 w w' := by
  obtain ⟨ko, capk, rfl, hk1, hk2, hk3⟩ := hvk.shapeI
  have HVK := Lib.hid hvk
  clear hvk
  obtain ⟨ao, capa, rfl, ha1, ha2, ha3⟩ := hva.shapeB
  obtain ⟨bo, capb, rfl, hb1, hb2, hb3⟩ := hvb.shapeB
  have HF := Lib.hid F
  have HA := Lib.hid hva
  have HB := Lib.hid hvb
  have HOA := Lib.hid hoa
  have HOB := Lib.hid hob
  clear hva hvb hoa hob F
  go_enter Try.func6, Try.ntmps6
  go_wp2_with fail
  refine (fit_any HF.out _).mono ?_
  rintro e w1 ⟨rfl, hk1x⟩
  have HK1 := Lib.hid hk1x
  clear hk1x
  obtain ⟨na, hna⟩ : ∃ n, n = okN la lb (readN la) := ⟨_, rfl⟩
  obtain ⟨nb, hnb⟩ : ∃ n, n = okN la lb (readN lb) := ⟨_, rfl⟩
  obtain ⟨bk, hbk⟩ : ∃ b, b = ok2 la lb := ⟨_, rfl⟩
  have HNA := Lib.hid hna
  have HNB := Lib.hid hnb
  have HBK := Lib.hid hbk
  clear hna hnb hbk
  go_wp2_with fail
  refine (two_any HF.out _ _ la lb w1 (HA.out.keep0 HK1.out) (HB.out.keep0 HK1.out) (fun g hg => by have := HOA.out g hg; have := HK1.out.size; omega) (fun g hg => by have := HOB.out g hg; have := HK1.out.size; omega)).mono ?_
  rw [← HNA.out, ← HNB.out, ← HBK.out]
  rintro e w2 ⟨ca, cb, rfl, hca, hcb, hk2x⟩
  have HCA := Lib.hid hca
  have HCB := Lib.hid hcb
  have HK2 := Lib.hid (HK1.out.tr hk2x)
  clear hca hcb hk2x
  cases bk
  · go_wp2_with (first
      | (refine wl_store_blk rfl 45 (.tmp 7) (.tmp 20) rfl w2.heap.size _ _ ca rfl rfl (TwoR.start w2 _ _ _ _).1 HCA.out.2.2.1 (len_of (T := 45) (by kernel_rfl) HCA.out.2.2.1) HCA.out.2.2.2 ?_
         intro y1 hA1 hK1
         have HT1 := Lib.hid ((TwoR.start w2 _ _ _ _).put4 hA1 hK1)
         clear hA1 hK1)
      | (refine wl_store_blk rfl 45 (.tmp 8) (.tmp 21) rfl (w2.heap.size + 1) _ _ cb rfl rfl HT1.out.2.1 HCB.out.2.2.1 (len_of (T := 45) (by kernel_rfl) HCB.out.2.2.1) HCB.out.2.2.2 ?_
         intro y2 hA2 hK2
         have HT2 := Lib.hid (HT1.out.put5 hA2 hK2)
         clear hA2 hK2)
      | (refine wl_store_blk rfl 47 (.tmp 9) (.tmp 22) rfl (w2.heap.size + 1 + 1) _ _ (i64s (F3.digs 16 (na : Int))) rfl rfl HT2.out.2.2.1 (infoN _ (numLen _)) (by rw [i64s_len, numLen]; rfl) (i64s_ones _) ?_
         intro y3 hA3 hK3
         have HT3 := Lib.hid (HT2.out.put6 hA3 hK3)
         clear hA3 hK3)
      | (refine wl_store_blk rfl 47 (.tmp 10) (.tmp 23) rfl (w2.heap.size + 1 + 1 + 1) _ _ (i64s (F3.digs 16 (nb : Int))) rfl rfl HT3.out.2.2.2.1 (infoN _ (numLen _)) (by rw [i64s_len, numLen]; rfl) (i64s_ones _) ?_
         intro y4 hA4 hK4
         have HT4 := Lib.hid (HT3.out.put7 hA4 hK4)
         clear hA4 hK4))
    all_goals go_ret
    all_goals exact ⟨rfl, HK2.out.tr HT4.out.2.2.2.2⟩
  · have HLA : Hid (na < 57896044618658097711785492504343953926634992332820282019728792003956564819949) := Lib.hid (by rw [HNA.out, okN, if_pos (of_decide_eq_true HBK.out.symm)]; exact readN_lt la)
    have HLB : Hid (nb < 57896044618658097711785492504343953926634992332820282019728792003956564819949) := Lib.hid (by rw [HNB.out, okN, if_pos (of_decide_eq_true HBK.out.symm)]; exact readN_lt lb)
    have HCA' : Hid (Fe R ca na) := Lib.hid (by rw [HNA.out, okN, if_pos (of_decide_eq_true HBK.out.symm)]; exact HCA.out)
    have HCB' : Hid (Fe R cb nb) := Lib.hid (by rw [HNB.out, okN, if_pos (of_decide_eq_true HBK.out.symm)]; exact HCB.out)
    by_cases hlen : 200 < lk.length
    · go_wp2_with (first
        | (refine wl_store_blk rfl 45 (.tmp 7) (.tmp 20) rfl w2.heap.size _ _ ca rfl rfl (TwoR.start w2 _ _ _ _).1 HCA.out.2.2.1 (len_of (T := 45) (by kernel_rfl) HCA.out.2.2.1) HCA.out.2.2.2 ?_
           intro y1 hA1 hK1
           have HT1 := Lib.hid ((TwoR.start w2 _ _ _ _).put4 hA1 hK1)
           clear hA1 hK1)
        | (refine wl_store_blk rfl 45 (.tmp 8) (.tmp 21) rfl (w2.heap.size + 1) _ _ cb rfl rfl HT1.out.2.1 HCB.out.2.2.1 (len_of (T := 45) (by kernel_rfl) HCB.out.2.2.1) HCB.out.2.2.2 ?_
           intro y2 hA2 hK2
           have HT2 := Lib.hid (HT1.out.put5 hA2 hK2)
           clear hA2 hK2)
        | (refine wl_store_blk rfl 47 (.tmp 9) (.tmp 22) rfl (w2.heap.size + 1 + 1) _ _ (i64s (F3.digs 16 (na : Int))) rfl rfl HT2.out.2.2.1 (infoN _ (numLen _)) (by rw [i64s_len, numLen]; rfl) (i64s_ones _) ?_
           intro y3 hA3 hK3
           have HT3 := Lib.hid (HT2.out.put6 hA3 hK3)
           clear hA3 hK3)
        | (refine wl_store_blk rfl 47 (.tmp 10) (.tmp 23) rfl (w2.heap.size + 1 + 1 + 1) _ _ (i64s (F3.digs 16 (nb : Int))) rfl rfl HT3.out.2.2.2.1 (infoN _ (numLen _)) (by rw [i64s_len, numLen]; rfl) (i64s_ones _) ?_
           intro y4 hA4 hK4
           have HT4 := Lib.hid (HT3.out.put7 hA4 hK4)
           clear hA4 hK4))
      all_goals go_ret
      all_goals exact ⟨rfl, HK2.out.tr HT4.out.2.2.2.2⟩
    go_wp2_with (first
      | (refine wl_store_blk rfl 45 (.tmp 7) (.tmp 20) rfl w2.heap.size _ _ ca rfl rfl (TwoR.start w2 _ _ _ _).1 HCA.out.2.2.1 (len_of (T := 45) (by kernel_rfl) HCA.out.2.2.1) HCA.out.2.2.2 ?_
         intro y1 hA1 hK1
         have HT1 := Lib.hid ((TwoR.start w2 _ _ _ _).put4 hA1 hK1)
         clear hA1 hK1)
      | (refine wl_store_blk rfl 45 (.tmp 8) (.tmp 21) rfl (w2.heap.size + 1) _ _ cb rfl rfl HT1.out.2.1 HCB.out.2.2.1 (len_of (T := 45) (by kernel_rfl) HCB.out.2.2.1) HCB.out.2.2.2 ?_
         intro y2 hA2 hK2
         have HT2 := Lib.hid (HT1.out.put5 hA2 hK2)
         clear hA2 hK2)
      | (refine wl_store_blk rfl 47 (.tmp 9) (.tmp 22) rfl (w2.heap.size + 1 + 1) _ _ (i64s (F3.digs 16 (na : Int))) rfl rfl HT2.out.2.2.1 (infoN _ (numLen _)) (by rw [i64s_len, numLen]; rfl) (i64s_ones _) ?_
         intro y3 hA3 hK3
         have HT3 := Lib.hid (HT2.out.put6 hA3 hK3)
         clear hA3 hK3)
      | (refine wl_store_blk rfl 47 (.tmp 10) (.tmp 23) rfl (w2.heap.size + 1 + 1 + 1) _ _ (i64s (F3.digs 16 (nb : Int))) rfl rfl HT3.out.2.2.2.1 (infoN _ (numLen _)) (by rw [i64s_len, numLen]; rfl) (i64s_ones _) ?_
         intro y4 hA4 hK4
         have HT4 := Lib.hid (HT3.out.put7 hA4 hK4)
         clear hA4 hK4))
    go_loopg [34] lk.length (fun g ix wr => ∃ (i : Nat) (cx cy : List Value) (m n : Nat), ix = .int .i64 i ∧ i ≤ lk.length ∧ g = lk.length - i ∧ TwoR w2 cx cy (i64s (F3.digs 16 (m : Int))) (i64s (F3.digs 16 (n : Int))) wr ∧ Hid (Fe R cx m) ∧ Hid (Fe R cy n))
    case atStart => exact ⟨0, ca, cb, na, nb, rfl, Nat.zero_le _, rfl, HT4.out, HCA', HCB'⟩
    case round =>
      obtain ⟨i, cx, cy, m, n, rfl, hi, rfl, hr, HCX, HCY⟩ := hrel
      have HR := Lib.hid hr
      clear hr
      by_cases h : i < lk.length
      · obtain ⟨b8, o8, c8, e8, _, _, hcell⟩ := HVK.out.posI (by omega)
        simp only [Value.slice.injEq] at e8
        obtain ⟨rfl, _, rfl⟩ := e8
        have hck := (HK2.out.tr HR.out.2.2.2.2).cell (hcell i h) (fun h => h)
        obtain ⟨x, hxx⟩ : ∃ x, x = lk[i]'h := ⟨_, rfl⟩
        rw [← hxx] at hck
        clear hcell hxx
        go_upto_region 11 with (fail)
        obtain ⟨q, hq⟩ : ∃ q, q = (wrap64 (x.tmod 3 + 3)).tmod 3 := ⟨_, rfl⟩
        rw [← hq]
        clear hq
        by_cases n0 : q = 0
        · have hq0 : (q == 0) = true := by rw [beq_iff_eq]; exact n0
          clear n0
          go_upto_region 12 with (fail)
          refine wp_region_wall [8] (fun w' : World => Kp0 wr w') (.quiet 0 (.quiet 1 (.quiet 3 (.quiet 4 (.quiet 5 (.quiet 7 (.eff 2 (.eff 6 (.wall 8 (.eff 9 (.eff 10 (.eff 11 .done)))))))))))) (by kernel_rfl) (by kernel_rfl) (by kernel_rfl) (by kernel_rfl) (fun _ d _ _ _ h => by cases d <;> exact h) ((Kp.refl _ wr).drew) ?_
          repeat (first
            | (refine pw_quiet (v := .agg cx.toArray) rfl (by rfl) (fun wq hwq => run_load_blk 45 (.tmp 7) rfl w2.heap.size _ cx rfl (HR.out.1.kp0 hwq) _ Try.underlying45 rfl HCX.out.2.2.1) rfl ?_; simp only [List.setIfInBounds_toArray, List.set_cons_zero, List.set_cons_succ])
            | (refine pw_quiet (v := .agg cy.toArray) rfl (by rfl) (fun wq hwq => run_load_blk 45 (.tmp 8) rfl (w2.heap.size + 1) _ cy rfl (HR.out.2.1.kp0 hwq) _ Try.underlying45 rfl HCY.out.2.2.1) rfl ?_; simp only [List.setIfInBounds_toArray, List.set_cons_zero, List.set_cons_succ])
            | (refine pw_quiet (v := .agg (i64s (F3.digs 16 (m : Int))).toArray) rfl (by rfl) (fun wq hwq => run_load_blk 47 (.tmp 9) rfl (w2.heap.size + 1 + 1) _ (i64s (F3.digs 16 (m : Int))) rfl (HR.out.2.2.1.kp0 hwq) _ Try.underlying47 rfl (infoN _ (numLen _))) rfl ?_; simp only [List.setIfInBounds_toArray, List.set_cons_zero, List.set_cons_succ])
            | (refine pw_quiet (v := .agg (i64s (F3.digs 16 (n : Int))).toArray) rfl (by rfl) (fun wq hwq => run_load_blk 47 (.tmp 10) rfl (w2.heap.size + 1 + 1 + 1) _ (i64s (F3.digs 16 (n : Int))) rfl (HR.out.2.2.2.1.kp0 hwq) _ Try.underlying47 rfl (infoN _ (numLen _))) rfl ?_; simp only [List.setIfInBounds_toArray, List.set_cons_zero, List.set_cons_succ])
            | (refine pw_quiet (v := ?_) rfl (by rfl) (fun wq hwq => ?_) rfl ?_; rotate_left 1; (focus (go_simp; try (with_reducible rfl); done)); simp only [List.setIfInBounds_toArray, List.set_cons_zero, List.set_cons_succ])
            | (refine pw_skip rfl (by rfl) rfl ?_; simp only [List.setIfInBounds_toArray, List.set_cons_zero, List.set_cons_succ])
            | (refine pw_skipE rfl (by rfl) rfl ?_; simp only [List.setIfInBounds_toArray, List.set_cons_zero, List.set_cons_succ]))
          refine pw_eff rfl (by rfl) (fun K hK => ?_)
          go_simp
          refine (HF.out.add cx cy m n _ HCX.out HCY.out).mono ?_
          obtain ⟨s, hs⟩ : ∃ s, s = (m + n) % 57896044618658097711785492504343953926634992332820282019728792003956564819949 := ⟨_, rfl⟩
          rw [← hs]
          have HSL : Hid (s < 57896044618658097711785492504343953926634992332820282019728792003956564819949) := Lib.hid (by rw [hs]; exact Nat.mod_lt _ (by omega))
          have HSS := Lib.hid hs
          clear hs
          rintro e x1 ⟨cz, rfl, hcz, hkx⟩
          have HCZ := Lib.hid hcz
          have HS1 : Hid (Kp0 wr x1) := Lib.hid ((Kp.refl _ wr).drew.tr hkx)
          clear hcz hkx
          simp only []
          refine hK (fun w' : World => Kp0 wr w') _ _ (fun x h => h) HS1.out ?_
          clear hK K
          refine pw_eff rfl (by rfl) (fun K hK => ?_)
          go_simp
          refine (add_any m n _ HCX.out.2.1 HCY.out.2.1).mono ?_
          rw [← HSS.out]
          rintro e x2 ⟨rfl, hkx⟩
          have HS2 : Hid (Kp0 wr x2) := Lib.hid (HS1.out.tr hkx)
          clear hkx
          simp only []
          refine hK (fun w' : World => Kp0 wr w') _ _ (fun x h => h) HS2.out ?_
          clear hK K
          have HT0 := Lib.hid (HR.out.kp0 HS2.out)
          refine pw_wall rfl (by rfl) (fun K hK => ?_)
          refine wp_store_blk 45 (.tmp 7) (.tmp 54) rfl w2.heap.size _ _ cz rfl rfl HT0.out.1 HCZ.out.2.2.1 (len_of HCX.out.2.2.1 HCZ.out.2.2.1) HCZ.out.2.2.2 ?_
          intro z1 hA1 hK1
          have HT1 := Lib.hid (HT0.out.put4 hA1 hK1)
          clear hA1 hK1
          refine hK _ _ ?_
          clear hK K
          simp only [Act.put]
          refine pw_eff rfl (by rfl) (fun K hK => ?_)
          refine wp_store_blk 45 (.tmp 8) (.tmp 55) rfl (w2.heap.size + 1) _ _ cx rfl rfl HT1.out.2.1 HCX.out.2.2.1 (len_of HCY.out.2.2.1 HCX.out.2.2.1) HCX.out.2.2.2 ?_
          intro z2 hA2 hK2
          have HT2 := Lib.hid (HT1.out.put5 hA2 hK2)
          clear hA2 hK2
          refine hK (fun _ => True) _ _ (fun x h => h) trivial ?_
          clear hK K
          simp only [Act.put]
          refine pw_eff rfl (by rfl) (fun K hK => ?_)
          refine wp_store_blk 47 (.tmp 9) (.tmp 58) rfl (w2.heap.size + 1 + 1) _ _ (i64s (F3.digs 16 (s : Int))) rfl rfl HT2.out.2.2.1 (infoN _ (numLen _)) (by rw [i64s_len, numLen, i64s_len, numLen]) (i64s_ones _) ?_
          intro z3 hA3 hK3
          have HT3 := Lib.hid (HT2.out.put6 hA3 hK3)
          clear hA3 hK3
          refine hK (fun _ => True) _ _ (fun x h => h) trivial ?_
          clear hK K
          simp only [Act.put]
          refine pw_eff rfl (by rfl) (fun K hK => ?_)
          refine wp_store_blk 47 (.tmp 10) (.tmp 59) rfl (w2.heap.size + 1 + 1 + 1) _ _ (i64s (F3.digs 16 (m : Int))) rfl rfl HT3.out.2.2.2.1 (infoN _ (numLen _)) (by rw [i64s_len, numLen, i64s_len, numLen]) (i64s_ones _) ?_
          intro z4 hA4 hK4
          have HT4 := Lib.hid (HT3.out.put7 hA4 hK4)
          clear hA4 hK4
          refine hK (fun _ => True) _ _ (fun x h => h) trivial ?_
          clear hK K
          simp only [Act.put]
          refine pw_done ?_
          go_wp2
          go_roundg (lk.length - (i + 1))
          case measure => omega
          case rel => exact ⟨i + 1, cz, cx, s, m, by go_num, by omega, rfl, HT4.out, HCZ, HCX⟩
        by_cases n1 : q = 1
        · have hq0 : (q == 0) = false := by rw [beq_eq_false_iff_ne]; exact n0
          have hq1 : (q == 1) = true := by rw [beq_iff_eq]; exact n1
          clear n0 n1
          go_upto_region 14 with (fail)
          refine wp_region_wall [8] (fun w' : World => Kp0 wr w') (.quiet 0 (.quiet 1 (.quiet 3 (.quiet 4 (.quiet 5 (.quiet 7 (.eff 2 (.eff 6 (.wall 8 (.eff 9 (.eff 10 (.eff 11 .done)))))))))))) (by kernel_rfl) (by kernel_rfl) (by kernel_rfl) (by kernel_rfl) (fun _ d _ _ _ h => by cases d <;> exact h) ((Kp.refl _ wr).drew) ?_
          repeat (first
            | (refine pw_quiet (v := .agg cx.toArray) rfl (by rfl) (fun wq hwq => run_load_blk 45 (.tmp 7) rfl w2.heap.size _ cx rfl (HR.out.1.kp0 hwq) _ Try.underlying45 rfl HCX.out.2.2.1) rfl ?_; simp only [List.setIfInBounds_toArray, List.set_cons_zero, List.set_cons_succ])
            | (refine pw_quiet (v := .agg cy.toArray) rfl (by rfl) (fun wq hwq => run_load_blk 45 (.tmp 8) rfl (w2.heap.size + 1) _ cy rfl (HR.out.2.1.kp0 hwq) _ Try.underlying45 rfl HCY.out.2.2.1) rfl ?_; simp only [List.setIfInBounds_toArray, List.set_cons_zero, List.set_cons_succ])
            | (refine pw_quiet (v := .agg (i64s (F3.digs 16 (m : Int))).toArray) rfl (by rfl) (fun wq hwq => run_load_blk 47 (.tmp 9) rfl (w2.heap.size + 1 + 1) _ (i64s (F3.digs 16 (m : Int))) rfl (HR.out.2.2.1.kp0 hwq) _ Try.underlying47 rfl (infoN _ (numLen _))) rfl ?_; simp only [List.setIfInBounds_toArray, List.set_cons_zero, List.set_cons_succ])
            | (refine pw_quiet (v := .agg (i64s (F3.digs 16 (n : Int))).toArray) rfl (by rfl) (fun wq hwq => run_load_blk 47 (.tmp 10) rfl (w2.heap.size + 1 + 1 + 1) _ (i64s (F3.digs 16 (n : Int))) rfl (HR.out.2.2.2.1.kp0 hwq) _ Try.underlying47 rfl (infoN _ (numLen _))) rfl ?_; simp only [List.setIfInBounds_toArray, List.set_cons_zero, List.set_cons_succ])
            | (refine pw_quiet (v := ?_) rfl (by rfl) (fun wq hwq => ?_) rfl ?_; rotate_left 1; (focus (go_simp; try (with_reducible rfl); done)); simp only [List.setIfInBounds_toArray, List.set_cons_zero, List.set_cons_succ])
            | (refine pw_skip rfl (by rfl) rfl ?_; simp only [List.setIfInBounds_toArray, List.set_cons_zero, List.set_cons_succ])
            | (refine pw_skipE rfl (by rfl) rfl ?_; simp only [List.setIfInBounds_toArray, List.set_cons_zero, List.set_cons_succ]))
          refine pw_eff rfl (by rfl) (fun K hK => ?_)
          go_simp
          refine (HF.out.sub cx cy m n _ HCX.out HCY.out).mono ?_
          obtain ⟨s, hs⟩ : ∃ s, s = (m + 57896044618658097711785492504343953926634992332820282019728792003956564819949 - n) % 57896044618658097711785492504343953926634992332820282019728792003956564819949 := ⟨_, rfl⟩
          rw [← hs]
          have HSL : Hid (s < 57896044618658097711785492504343953926634992332820282019728792003956564819949) := Lib.hid (by rw [hs]; exact Nat.mod_lt _ (by omega))
          have HSS := Lib.hid hs
          clear hs
          rintro e x1 ⟨cz, rfl, hcz, hkx⟩
          have HCZ := Lib.hid hcz
          have HS1 : Hid (Kp0 wr x1) := Lib.hid ((Kp.refl _ wr).drew.tr hkx)
          clear hcz hkx
          simp only []
          refine hK (fun w' : World => Kp0 wr w') _ _ (fun x h => h) HS1.out ?_
          clear hK K
          refine pw_eff rfl (by rfl) (fun K hK => ?_)
          go_simp
          refine (sub_any m n _ HCX.out.2.1 HCY.out.2.1).mono ?_
          rw [← HSS.out]
          rintro e x2 ⟨rfl, hkx⟩
          have HS2 : Hid (Kp0 wr x2) := Lib.hid (HS1.out.tr hkx)
          clear hkx
          simp only []
          refine hK (fun w' : World => Kp0 wr w') _ _ (fun x h => h) HS2.out ?_
          clear hK K
          have HT0 := Lib.hid (HR.out.kp0 HS2.out)
          refine pw_wall rfl (by rfl) (fun K hK => ?_)
          refine wp_store_blk 45 (.tmp 7) (.tmp 64) rfl w2.heap.size _ _ cz rfl rfl HT0.out.1 HCZ.out.2.2.1 (len_of HCX.out.2.2.1 HCZ.out.2.2.1) HCZ.out.2.2.2 ?_
          intro z1 hA1 hK1
          have HT1 := Lib.hid (HT0.out.put4 hA1 hK1)
          clear hA1 hK1
          refine hK _ _ ?_
          clear hK K
          simp only [Act.put]
          refine pw_eff rfl (by rfl) (fun K hK => ?_)
          refine wp_store_blk 45 (.tmp 8) (.tmp 65) rfl (w2.heap.size + 1) _ _ cx rfl rfl HT1.out.2.1 HCX.out.2.2.1 (len_of HCY.out.2.2.1 HCX.out.2.2.1) HCX.out.2.2.2 ?_
          intro z2 hA2 hK2
          have HT2 := Lib.hid (HT1.out.put5 hA2 hK2)
          clear hA2 hK2
          refine hK (fun _ => True) _ _ (fun x h => h) trivial ?_
          clear hK K
          simp only [Act.put]
          refine pw_eff rfl (by rfl) (fun K hK => ?_)
          refine wp_store_blk 47 (.tmp 9) (.tmp 68) rfl (w2.heap.size + 1 + 1) _ _ (i64s (F3.digs 16 (s : Int))) rfl rfl HT2.out.2.2.1 (infoN _ (numLen _)) (by rw [i64s_len, numLen, i64s_len, numLen]) (i64s_ones _) ?_
          intro z3 hA3 hK3
          have HT3 := Lib.hid (HT2.out.put6 hA3 hK3)
          clear hA3 hK3
          refine hK (fun _ => True) _ _ (fun x h => h) trivial ?_
          clear hK K
          simp only [Act.put]
          refine pw_eff rfl (by rfl) (fun K hK => ?_)
          refine wp_store_blk 47 (.tmp 10) (.tmp 69) rfl (w2.heap.size + 1 + 1 + 1) _ _ (i64s (F3.digs 16 (m : Int))) rfl rfl HT3.out.2.2.2.1 (infoN _ (numLen _)) (by rw [i64s_len, numLen, i64s_len, numLen]) (i64s_ones _) ?_
          intro z4 hA4 hK4
          have HT4 := Lib.hid (HT3.out.put7 hA4 hK4)
          clear hA4 hK4
          refine hK (fun _ => True) _ _ (fun x h => h) trivial ?_
          clear hK K
          simp only [Act.put]
          refine pw_done ?_
          go_wp2
          go_roundg (lk.length - (i + 1))
          case measure => omega
          case rel => exact ⟨i + 1, cz, cx, s, m, by go_num, by omega, rfl, HT4.out, HCZ, HCX⟩
        have hq0 : (q == 0) = false := by rw [beq_eq_false_iff_ne]; exact n0
        have hq1 : (q == 1) = false := by rw [beq_eq_false_iff_ne]; exact n1
        clear n0 n1
        go_upto_region 10 with (fail)
        refine wp_region_wall [8] (fun w' : World => Kp0 wr w') (.quiet 0 (.quiet 1 (.quiet 3 (.quiet 4 (.quiet 5 (.quiet 7 (.eff 2 (.eff 6 (.wall 8 (.eff 9 (.eff 10 (.eff 11 .done)))))))))))) (by kernel_rfl) (by kernel_rfl) (by kernel_rfl) (by kernel_rfl) (fun _ d _ _ _ h => by cases d <;> exact h) ((Kp.refl _ wr).drew) ?_
        repeat (first
          | (refine pw_quiet (v := .agg cx.toArray) rfl (by rfl) (fun wq hwq => run_load_blk 45 (.tmp 7) rfl w2.heap.size _ cx rfl (HR.out.1.kp0 hwq) _ Try.underlying45 rfl HCX.out.2.2.1) rfl ?_; simp only [List.setIfInBounds_toArray, List.set_cons_zero, List.set_cons_succ])
          | (refine pw_quiet (v := .agg cy.toArray) rfl (by rfl) (fun wq hwq => run_load_blk 45 (.tmp 8) rfl (w2.heap.size + 1) _ cy rfl (HR.out.2.1.kp0 hwq) _ Try.underlying45 rfl HCY.out.2.2.1) rfl ?_; simp only [List.setIfInBounds_toArray, List.set_cons_zero, List.set_cons_succ])
          | (refine pw_quiet (v := .agg (i64s (F3.digs 16 (m : Int))).toArray) rfl (by rfl) (fun wq hwq => run_load_blk 47 (.tmp 9) rfl (w2.heap.size + 1 + 1) _ (i64s (F3.digs 16 (m : Int))) rfl (HR.out.2.2.1.kp0 hwq) _ Try.underlying47 rfl (infoN _ (numLen _))) rfl ?_; simp only [List.setIfInBounds_toArray, List.set_cons_zero, List.set_cons_succ])
          | (refine pw_quiet (v := .agg (i64s (F3.digs 16 (n : Int))).toArray) rfl (by rfl) (fun wq hwq => run_load_blk 47 (.tmp 10) rfl (w2.heap.size + 1 + 1 + 1) _ (i64s (F3.digs 16 (n : Int))) rfl (HR.out.2.2.2.1.kp0 hwq) _ Try.underlying47 rfl (infoN _ (numLen _))) rfl ?_; simp only [List.setIfInBounds_toArray, List.set_cons_zero, List.set_cons_succ])
          | (refine pw_quiet (v := ?_) rfl (by rfl) (fun wq hwq => ?_) rfl ?_; rotate_left 1; (focus (go_simp; try (with_reducible rfl); done)); simp only [List.setIfInBounds_toArray, List.set_cons_zero, List.set_cons_succ])
          | (refine pw_skip rfl (by rfl) rfl ?_; simp only [List.setIfInBounds_toArray, List.set_cons_zero, List.set_cons_succ])
          | (refine pw_skipE rfl (by rfl) rfl ?_; simp only [List.setIfInBounds_toArray, List.set_cons_zero, List.set_cons_succ]))
        refine pw_eff rfl (by rfl) (fun K hK => ?_)
        go_simp
        refine (HF.out.mul cx cy m n _ HCX.out HCY.out).mono ?_
        obtain ⟨s, hs⟩ : ∃ s, s = m * n % 57896044618658097711785492504343953926634992332820282019728792003956564819949 := ⟨_, rfl⟩
        rw [← hs]
        have HSL : Hid (s < 57896044618658097711785492504343953926634992332820282019728792003956564819949) := Lib.hid (by rw [hs]; exact Nat.mod_lt _ (by omega))
        have HSS := Lib.hid hs
        clear hs
        rintro e x1 ⟨cz, rfl, hcz, hkx⟩
        have HCZ := Lib.hid hcz
        have HS1 : Hid (Kp0 wr x1) := Lib.hid ((Kp.refl _ wr).drew.tr hkx)
        clear hcz hkx
        simp only []
        refine hK (fun w' : World => Kp0 wr w') _ _ (fun x h => h) HS1.out ?_
        clear hK K
        refine pw_eff rfl (by rfl) (fun K hK => ?_)
        go_simp
        refine (mul_any m n _ HCX.out.2.1 HCY.out.2.1).mono ?_
        rw [← HSS.out]
        rintro e x2 ⟨rfl, hkx⟩
        have HS2 : Hid (Kp0 wr x2) := Lib.hid (HS1.out.tr hkx)
        clear hkx
        simp only []
        refine hK (fun w' : World => Kp0 wr w') _ _ (fun x h => h) HS2.out ?_
        clear hK K
        have HT0 := Lib.hid (HR.out.kp0 HS2.out)
        refine pw_wall rfl (by rfl) (fun K hK => ?_)
        refine wp_store_blk 45 (.tmp 7) (.tmp 44) rfl w2.heap.size _ _ cz rfl rfl HT0.out.1 HCZ.out.2.2.1 (len_of HCX.out.2.2.1 HCZ.out.2.2.1) HCZ.out.2.2.2 ?_
        intro z1 hA1 hK1
        have HT1 := Lib.hid (HT0.out.put4 hA1 hK1)
        clear hA1 hK1
        refine hK _ _ ?_
        clear hK K
        simp only [Act.put]
        refine pw_eff rfl (by rfl) (fun K hK => ?_)
        refine wp_store_blk 45 (.tmp 8) (.tmp 45) rfl (w2.heap.size + 1) _ _ cx rfl rfl HT1.out.2.1 HCX.out.2.2.1 (len_of HCY.out.2.2.1 HCX.out.2.2.1) HCX.out.2.2.2 ?_
        intro z2 hA2 hK2
        have HT2 := Lib.hid (HT1.out.put5 hA2 hK2)
        clear hA2 hK2
        refine hK (fun _ => True) _ _ (fun x h => h) trivial ?_
        clear hK K
        simp only [Act.put]
        refine pw_eff rfl (by rfl) (fun K hK => ?_)
        refine wp_store_blk 47 (.tmp 9) (.tmp 48) rfl (w2.heap.size + 1 + 1) _ _ (i64s (F3.digs 16 (s : Int))) rfl rfl HT2.out.2.2.1 (infoN _ (numLen _)) (by rw [i64s_len, numLen, i64s_len, numLen]) (i64s_ones _) ?_
        intro z3 hA3 hK3
        have HT3 := Lib.hid (HT2.out.put6 hA3 hK3)
        clear hA3 hK3
        refine hK (fun _ => True) _ _ (fun x h => h) trivial ?_
        clear hK K
        simp only [Act.put]
        refine pw_eff rfl (by rfl) (fun K hK => ?_)
        refine wp_store_blk 47 (.tmp 10) (.tmp 49) rfl (w2.heap.size + 1 + 1 + 1) _ _ (i64s (F3.digs 16 (m : Int))) rfl rfl HT3.out.2.2.2.1 (infoN _ (numLen _)) (by rw [i64s_len, numLen, i64s_len, numLen]) (i64s_ones _) ?_
        intro z4 hA4 hK4
        have HT4 := Lib.hid (HT3.out.put7 hA4 hK4)
        clear hA4 hK4
        refine hK (fun _ => True) _ _ (fun x h => h) trivial ?_
        clear hK K
        simp only [Act.put]
        refine pw_done ?_
        go_wp2
        go_roundg (lk.length - (i + 1))
        case measure => omega
        case rel => exact ⟨i + 1, cz, cx, s, m, by go_num, by omega, rfl, HT4.out, HCZ, HCX⟩
      · obtain rfl : i = lk.length := by omega
        go_wp2_with (first
          | (refine wl_load_blk rfl 45 (.tmp 7) rfl w2.heap.size _ cx rfl HR.out.1 _ Try.underlying45 rfl HCX.out.2.2.1 ?_)
          | (refine wl_load_blk rfl 47 (.tmp 9) rfl (w2.heap.size + 1 + 1) _ (i64s (F3.digs 16 (m : Int))) rfl HR.out.2.2.1 _ Try.underlying47 rfl (infoN _ (numLen _)) ?_))
        refine (like_any HF.out cx m _ HCX.out).mono ?_
        rintro e w5 ⟨rfl, hk5⟩
        have HR5 := Lib.hid (HR.out.kp0 hk5)
        clear hk5
        go_wp2_with (first
          | (refine wl_load_blkW (by rfl) 45 (.tmp 8) rfl (w2.heap.size + 1) _ cy rfl HR5.out.2.1 _ Try.underlying45 rfl HCY.out.2.2.1 ?_)
          | (refine wl_load_blkW (by rfl) 47 (.tmp 10) rfl (w2.heap.size + 1 + 1 + 1) _ (i64s (F3.digs 16 (n : Int))) rfl HR5.out.2.2.2.1 _ Try.underlying47 rfl (infoN _ (numLen _)) ?_))
        refine (like_any HF.out cy n _ HCY.out).mono ?_
        rintro e w6 ⟨rfl, hk6⟩
        have HK6 : Hid (Kp0 w w6) := Lib.hid ((HK2.out.tr HR5.out.2.2.2.2).tr hk6)
        clear hk6
        go_wp2
        all_goals go_ret
        all_goals exact ⟨rfl, HK6.out⟩
end Go.Proofs.Ytjfphmmhikamaaa
