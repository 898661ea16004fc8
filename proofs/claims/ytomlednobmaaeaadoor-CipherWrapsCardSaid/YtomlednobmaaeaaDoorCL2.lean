/- The laws of package cipher: blocks. -/
import Derived.Test.YtomlednobmaaeaaDoorCL1
namespace Go.Proofs.YtomlednobmaaeaaDoor
open Go Go.RowKit
attribute [local irreducible] kyW colsW aesK kb xorB
theorem wl_quiet_want {P : Program} {ops : Array Oper} {rest : List Oper} {op : Oper} {a : Act} {w : World} {Q : Exit → Act → World → Prop} {v : Value} (hw : Region.wanted op (yielded ops a.tmps) = true)
    (hv : (execOp a.eval op).run P w = .ok (.value v) w) (h : wpList P ops Q rest (a.put op.dst v) w) : wpList P ops Q (op :: rest) a w := by
  refine wpList_step fun K hK => ?_
  rw [if_pos hw]
  unfold Oper.wp
  rw [hv]
  exact hK _ _ h
set_option maxRecDepth 20000 in
set_option maxHeartbeats 4000000 in
theorem cblocks_walk (vk vc : Value) (lk lc b : List UInt8) (w : World) (hk : Rd w vk (bys lk)) (hc : Rd w vc (bys lc)) (hbl : b.length = 16) (hq : Sqr w) :
    Calls Tryd.prog 3 #[vk, vc, .agg (bys b).toArray] w fun e w' => e = .returned (.bool true) ∧ Kp0 w w' := by
  obtain ⟨ak, ck, rfl, _, _, _⟩ := hk.shapeB
  obtain ⟨ac, cc, rfl, _, _, _⟩ := hc.shapeB
  have Hk := Lib.hid hk
  have Hc := Lib.hid hc
  have HBL := Lib.hid hbl
  have HQ := Lib.hid hq
  clear hk hc hbl hq
  go_enter Tryd.func3, Tryd.ntmps3
  go_upto_region 1 with (fail)
  have HB0 : Hid (Bks w (w.alloc (.cells (bys b).toArray 23)) [(w.heap.size, 23, bys b)]) := Lib.hid ((Bks.nil w).push 23 (bys b) rfl)
  change Code.wp _ _ _ _ (w.alloc (.cells (bys b).toArray 23))
  generalize (w.alloc (.cells (bys b).toArray 23)) = w1 at HB0 ⊢
  go_wp2_with fail
  refine (fit6_any _ (HQ.out.kp0 HB0.out.kp)).mono ?_
  rintro e w2 ⟨rfl, hk2⟩
  have HB1 := Lib.hid (HB0.out.kp0 hk2)
  clear hk2
  by_cases hbig : lk.length ≤ 100 ∧ lc.length ≤ 100
  · have h1 : (lk.length : Int) ≤ 100 := by omega
    have h2 : (lc.length : Int) ≤ 100 := by omega
    clear hbig
    by_cases h16 : lk.length = 16 ∧ lc.length = 16
    · have H16 := Lib.hid h16
      have b1 : ((lk.length : Int) != 16) = false := by rw [bne_eq_false_iff_eq]; omega
      have b2 : ((lc.length : Int) != 16) = false := by rw [bne_eq_false_iff_eq]; omega
      clear h16
      go_upto_region 8 with (go_at_call 9
                             refine (new_any _ _ lk lc _ (Hk.out.keep0 HB1.out.kp) (Hc.out.keep0 HB1.out.kp) (HQ.out.kp0 HB1.out.kp) H16.out).mono ?_
                             rintro e w3 ⟨g, rfl, hs, hg, hk⟩
                             have HS := Lib.hid hs
                             have HG := Lib.hid hg
                             have HB2 := Lib.hid (HB1.out.kp0 hk)
                             clear hs hg hk)
      obtain ⟨ks, hks⟩ : ∃ ks, ks = kyW (colsW lk) := ⟨_, rfl⟩
      have HKS := Lib.hid hks
      have heq : ∀ wq : World, (Op.equalIn 10000 23 (.agg (bys (aesK ks b)).toArray) (.agg (bys (aesK ks b)).toArray)).run Tryd.prog wq = .ok true wq := fun wq => eq16 (aesK_len (by rw [hks]; exact HS.out.2.1) b) wq
      rw [← hks] at HS
      clear hks
      have HK0 : Hid (Kp0 w3.drew w3.drew) := Lib.hid (Kp.refl _ _)
      refine wp_region_px 12 [] (fun w' : World => Kp0 w3.drew w') (.quiet 0 (.quiet 1 (.quiet 2 (.quiet 3 (.quiet 4 (.quiet 6 (.quiet 7 (.eff 5 (.eff 8 (.quiet 9 (.quiet 10 (.quiet 11 .done)))))))))))) (by kernel_rfl) (by kernel_rfl) (by kernel_rfl) (by kernel_rfl) (fun _ d _ _ _ h => by cases d <;> exact h) HK0.out ?_
      refine px_quiet (v := ?_) rfl (by rfl) (fun wq hwq => ?_) rfl ?_; rotate_left 1; (focus (go_simp; try (with_reducible rfl); done)); try simp only [List.setIfInBounds_toArray, List.set_cons_zero, List.set_cons_succ]
      refine px_quiet (v := ?_) rfl (by rfl) (fun wq hwq => ?_) rfl ?_; rotate_left 1; (focus (go_simp; try (with_reducible rfl); done)); try simp only [List.setIfInBounds_toArray, List.set_cons_zero, List.set_cons_succ]
      refine px_quiet (v := ?_) rfl (by rfl) (fun wq hwq => ?_) rfl ?_; rotate_left 1; (focus (go_simp; try (with_reducible rfl); done)); try simp only [List.setIfInBounds_toArray, List.set_cons_zero, List.set_cons_succ]
      refine px_quiet (v := ?_) rfl (by rfl) (fun wq hwq => ?_) rfl ?_; rotate_left 1; (focus (go_simp; try (with_reducible rfl); done)); try simp only [List.setIfInBounds_toArray, List.set_cons_zero, List.set_cons_succ]
      refine px_quiet (v := .agg (bys b).toArray) rfl (by rfl) (fun wq hwq => run_load_blk 23 (.tmp 5) rfl (w.heap.size) _ (bys b) rfl ((HB2.out.kp0 ((Kp.refl _ _).drew.tr hwq)).at 0 rfl) _ Tryd.underlying23 rfl (info16 HBL.out)) rfl ?_
      try simp only [List.setIfInBounds_toArray, List.set_cons_zero, List.set_cons_succ]
      refine px_quiet (v := ?_) rfl (by rfl) (fun wq hwq => ?_) rfl ?_; rotate_left 1; (focus (go_simp; try (with_reducible rfl); done)); try simp only [List.setIfInBounds_toArray, List.set_cons_zero, List.set_cons_succ]
      refine px_quiet (v := .agg (bys b).toArray) rfl (by rfl) (fun wq hwq => run_load_blk 23 (.tmp 5) rfl (w.heap.size) _ (bys b) rfl ((HB2.out.kp0 ((Kp.refl _ _).drew.tr hwq)).at 0 rfl) _ Tryd.underlying23 rfl (info16 HBL.out)) rfl ?_
      try simp only [List.setIfInBounds_toArray, List.set_cons_zero, List.set_cons_succ]
      refine px_eff rfl (by rfl) (fun K hK => ?_)
      go_simp
      refine (blk_any g ks lc z16 0 b _ (HS.out.kp0 (Kp.refl _ _).drew) HBL.out ((HQ.out.kp0 HB2.out.kp).kp0 (Kp.refl _ _).drew)).mono ?_
      rintro e zw1 ⟨rfl, hk⟩
      simp only []
      have HK1 : Hid (Kp0 w3.drew zw1) := Lib.hid (HK0.out.tr hk)
      clear hk
      refine hK (fun w' : World => Kp0 w3.drew w') _ _ (fun x h => h) HK1.out ?_
      clear hK K
      refine px_eff rfl (by rfl) (fun K hK => ?_)
      go_simp
      refine (rblk_any _ lk b _ (((Hk.out.keep0 HB2.out.kp).keep0 (Kp.refl _ _).drew).keep0 HK1.out) H16.out.1 HBL.out).mono ?_
      rintro e zw2 ⟨rfl, hk⟩
      simp only []
      have HK2 : Hid (Kp0 w3.drew zw2) := Lib.hid (HK1.out.tr hk)
      clear hk
      refine hK (fun w' : World => Kp0 w3.drew w') _ _ (fun x h => h) HK2.out ?_
      clear hK K
      rw [← HKS.out]
      repeat (first
        | (refine px_quiet (v := ?_) rfl (by rfl) (fun wq hwq => ?_) rfl ?_; rotate_left 1; (focus (go_simp; try (with_reducible rfl); done)); try simp only [List.setIfInBounds_toArray, List.set_cons_zero, List.set_cons_succ])
        | (refine px_skip rfl (by rfl) rfl ?_; try simp only [List.setIfInBounds_toArray, List.set_cons_zero, List.set_cons_succ]))
      refine px_done ?_
      go_wp2
      go_ret
      exact ⟨rfl, HB2.out.kp.tr ((Kp.refl _ _).drew.tr HK2.out)⟩
    · have H16 := Lib.hid h16
      have heq : ∀ wq : World, (Op.equalIn 10000 23 (.agg (bys z16).toArray) (.agg #[.int .u8 0, .int .u8 0, .int .u8 0, .int .u8 0, .int .u8 0, .int .u8 0, .int .u8 0, .int .u8 0, .int .u8 0, .int .u8 0, .int .u8 0, .int .u8 0, .int .u8 0, .int .u8 0, .int .u8 0, .int .u8 0])).run Tryd.prog wq = .ok true wq := fun wq => eq16 (l := z16) rfl wq
      have hz : ∀ wq : World, (Instr.build 23 #[]).run Tryd.prog wq = .ok (.agg (bys z16).toArray) wq := fun wq => by kernel_rfl
      have ARM : True := trivial
      by_cases h17 : lk.length = 16
      · have b1 : ((lk.length : Int) != 16) = false := by rw [bne_eq_false_iff_eq]; omega
        have b2 : ((lc.length : Int) != 16) = true := by rw [bne_iff_ne]; omega
        clear h16 h17
        go_wp2_with (first
          | (go_at_call 9
             refine (new_no _ _ lk lc _ (Hk.out.keep0 HB1.out.kp) (Hc.out.keep0 HB1.out.kp) H16.out).mono ?_
             rintro e w3 ⟨rfl, hk⟩
             have HB2 := Lib.hid (HB1.out.kp0 hk)
             clear hk)
          | (refine wl_quiet_want (v := .agg (bys b).toArray) (by rfl) (run_load_blk 23 (.tmp 5) rfl (w.heap.size) _ (bys b) rfl (HB2.out.at 0 rfl) _ Tryd.underlying23 rfl (info16 HBL.out)) ?_)
          | (go_at_call 10
             refine (blk_nil b _ HBL.out).mono ?_
             rintro e w4 ⟨rfl, hk⟩
             have HB3 := Lib.hid (HB2.out.kp0 hk)
             clear hk)
          | (go_at_call 11
             refine (turn_nil _ _).mono ?_
             rintro e w5 ⟨rfl, hk⟩
             have HB4 := Lib.hid (HB3.out.kp0 hk)
             clear hk))
        go_ret
        exact ⟨rfl, HB4.out.kp⟩
      · have b1 : ((lk.length : Int) != 16) = true := by rw [bne_iff_ne]; omega
        clear h16 h17
        go_wp2_with (first
          | (go_at_call 9
             refine (new_no _ _ lk lc _ (Hk.out.keep0 HB1.out.kp) (Hc.out.keep0 HB1.out.kp) H16.out).mono ?_
             rintro e w3 ⟨rfl, hk⟩
             have HB2 := Lib.hid (HB1.out.kp0 hk)
             clear hk)
          | (refine wl_quiet_want (v := .agg (bys b).toArray) (by rfl) (run_load_blk 23 (.tmp 5) rfl (w.heap.size) _ (bys b) rfl (HB2.out.at 0 rfl) _ Tryd.underlying23 rfl (info16 HBL.out)) ?_)
          | (go_at_call 10
             refine (blk_nil b _ HBL.out).mono ?_
             rintro e w4 ⟨rfl, hk⟩
             have HB3 := Lib.hid (HB2.out.kp0 hk)
             clear hk)
          | (go_at_call 11
             refine (turn_nil _ _).mono ?_
             rintro e w5 ⟨rfl, hk⟩
             have HB4 := Lib.hid (HB3.out.kp0 hk)
             clear hk))
        go_ret
        exact ⟨rfl, HB4.out.kp⟩
  · by_cases h1 : lk.length ≤ 100
    · have h2 : ¬ lc.length ≤ 100 := fun h => hbig ⟨h1, h⟩
      have h1' : (lk.length : Int) ≤ 100 := by omega
      have h2' : 100 < (lc.length : Int) := by omega
      clear hbig h1 h2
      go_wp2
      go_ret
      exact ⟨rfl, HB1.out.kp⟩
    · have h1' : 100 < (lk.length : Int) := by omega
      clear hbig h1
      go_wp2
      go_ret
      exact ⟨rfl, HB1.out.kp⟩
end Go.Proofs.YtomlednobmaaeaaDoor
