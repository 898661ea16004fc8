/- The laws of package ladder: LadderShares. -/
import Derived.Test.YtcnehbfcagghpaaWalkA
namespace Go.Proofs.Ytcnehbfcagghpaa
open Go Go.RowKit
set_option maxRecDepth 20000 in
set_option maxHeartbeats 8000000 in
theorem lshares_walk (va : Value) (la : List UInt8) (vb : Value) (lb : List UInt8) (vp : Value) (lp : List UInt8) (w : World) (ha : Rd w va (bys la)) (oa : ∀ g, va.ownBlock = some g → g < w.heap.size) (hb : Rd w vb (bys lb)) (ob : ∀ g, vb.ownBlock = some g → g < w.heap.size) (hp : Rd w vp (bys lp)) (op : ∀ g, vp.ownBlock = some g → g < w.heap.size) :
    Calls Try.prog 4 #[va, vb, vp] w fun e w' => e = .returned (.bool true) ∧ Kp0 w w' := by
  obtain ⟨aa, ca, rfl, _, _, _⟩ := ha.shapeB
  have Ha := Lib.hid ha
  have Oa := Lib.hid oa
  obtain ⟨ab, cb, rfl, _, _, _⟩ := hb.shapeB
  have Hb := Lib.hid hb
  have Ob := Lib.hid ob
  obtain ⟨ap, cp, rfl, _, _, _⟩ := hp.shapeB
  have Hp := Lib.hid hp
  have Op := Lib.hid op
  clear ha oa hb ob hp op
  have hmk := mk32
  go_enter Try.func4, Try.ntmps4
  go_wp2_with fail
  refine (fit4_any _).mono ?_
  rintro e w1 ⟨rfl, hk1⟩
  have K1 := Lib.hid hk1
  clear hk1
  by_cases h : la.length = 32 ∧ lb.length = 32
  · have HH := Lib.hid h
    have ba : ((la.length : Int) != 32) = false := by rw [bne_eq_false_iff_eq]; omega
    have bb : ((lb.length : Int) != 32) = false := by rw [bne_eq_false_iff_eq]; omega
    clear h
    go_wp2_with fail
    refine (pub4_yes _ la _ (Ha.out.keep0 K1.out) HH.out.1).mono ?_
    rintro e w2 ⟨vx, rfl, hs⟩
    have Sx := Lib.hid hs
    clear hs
    have K2 := Lib.hid (K1.out.tr Sx.out.2.2)
    go_wp2_with fail
    refine (pub4_yes _ lb _ (Hb.out.keep0 K2.out) HH.out.2).mono ?_
    rintro e w3 ⟨vy, rfl, hs⟩
    have Sy := Lib.hid hs
    clear hs
    have K3 := Lib.hid (K2.out.tr Sy.out.2.2)
    go_wp2_with fail
    refine (sha4_yes _ _ la (mulB lb nineB) _ (Ha.out.keep0 K3.out) (Sy.out.1) (Sy.out.2.1) HH.out.1 (mulB_len _ _) (two_share la lb HH.out.1 HH.out.2)).mono ?_
    rintro e w4 ⟨vs, rfl, hs⟩
    have Ss := Lib.hid hs
    clear hs
    have K4 := Lib.hid (K3.out.tr Ss.out.2.2)
    go_wp2_with fail
    refine (sha4_yes _ _ lb (mulB la nineB) _ (Hb.out.keep0 K4.out) (Sx.out.1.keep0 (Sy.out.2.2.tr Ss.out.2.2)) (Sx.out.own (Sy.out.2.2.tr Ss.out.2.2)) HH.out.2 (mulB_len _ _) (two_share lb la HH.out.2 HH.out.1)).mono ?_
    rintro e w5 ⟨vt, rfl, hs⟩
    have St := Lib.hid hs
    clear hs
    have K5 := Lib.hid (K4.out.tr St.out.2.2)
    go_wp2_with fail
    refine (sha4_any _ _ la lp _ (Ha.out.keep0 K5.out) (Hp.out.keep0 K5.out) (fun g hg => Nat.lt_of_lt_of_le (Op.out g hg) K5.out.size)).mono ?_
    rintro e w6 ⟨vu, lu, nu, rfl, hs, hi⟩
    have Su := Lib.hid hs
    have Iu := Lib.hid hi
    clear hs hi
    have K6 := Lib.hid (K5.out.tr Su.out.2.2)
    go_wp2_with fail
    refine (mult4_any _ _ la lp _ (Ha.out.keep0 K6.out) (Hp.out.keep0 K6.out) (fun g hg => Nat.lt_of_lt_of_le (Op.out g hg) K6.out.size)).mono ?_
    rintro e w7 ⟨vz, lz, nz, rfl, hs, hi⟩
    have Sz := Lib.hid hs
    have Iz := Lib.hid hi
    clear hs hi
    have K7 := Lib.hid (K6.out.tr Sz.out.2.2)
    obtain ⟨sx, hx⟩ : ∃ x, x = tx (mulB la (mulB lb nineB)) := ⟨_, rfl⟩
    obtain ⟨sp, hp⟩ : ∃ x, x = tx (mulB la nineB) := ⟨_, rfl⟩
    have HX := Lib.hid hx
    have HP := Lib.hid hp
    clear hx hp
    have hcs : ∀ w' : World, Kp0 w7 w' → (convert 22 9 vs).run Try.prog w' = .ok (.string sx) w' := fun w' hw => by rw [HX.out]; exact cv_tx (Ss.out.1.keep0 (((St.out.2.2.tr Su.out.2.2).tr Sz.out.2.2).tr hw))
    have hct : ∀ w' : World, Kp0 w7 w' → (convert 22 9 vt).run Try.prog w' = .ok (.string sx) w' := fun w' hw => by rw [HX.out, ← mulB_swap nineB HH.out.1 HH.out.2]; exact cv_tx (St.out.1.keep0 ((Su.out.2.2.tr Sz.out.2.2).tr hw))
    have hcp : ∀ w' : World, Kp0 w7 w' → (convert 22 9 vx).run Try.prog w' = .ok (.string sp) w' := fun w' hw => by rw [HP.out]; exact cv_tx (Sx.out.1.keep0 (((((Sy.out.2.2.tr Ss.out.2.2).tr St.out.2.2).tr Su.out.2.2).tr Sz.out.2.2).tr hw))
    go_upto_region 12 with (fail)
    have HS0 : Hid (Kp0 w7 w7.drew) := Lib.hid ((Kp.refl _ _).drew)
    refine wp_region_px 19 [] (fun w' : World => Kp0 w7 w') (.quiet 0 (.quiet 1 (.quiet 2 (.quiet 3 (.quiet 4 (.quiet 5 (.quiet 7 (.quiet 6 (.quiet 8 (.quiet 9 (.quiet 10 (.quiet 11 (.quiet 12 (.quiet 14 (.quiet 13 (.eff 15 (.quiet 16 (.quiet 17 (.quiet 18 .done))))))))))))))))))) (by kernel_rfl) (by kernel_rfl) (by kernel_rfl) (by kernel_rfl) (fun _ d _ _ _ h => by cases d <;> exact h) HS0.out ?_
    repeat (first
      | (refine px_quiet (v := ?_) rfl (by rfl) (fun wq hwq => ?_) rfl ?_; rotate_left 1; (focus (go_simp; try (with_reducible rfl); done)); try simp only [List.setIfInBounds_toArray, List.set_cons_zero, List.set_cons_succ])
      | (refine px_skip rfl (by rfl) rfl ?_; try simp only [List.setIfInBounds_toArray, List.set_cons_zero, List.set_cons_succ]))
    refine px_eff rfl (by rfl) (fun K hK => ?_)
    go_simp
    refine (rpub_any _ la _ (Ha.out.keep0 (K7.out.tr HS0.out)) HH.out.1 (fun g hg => Nat.lt_of_lt_of_le (Oa.out g hg) (K7.out.tr HS0.out).size)).mono ?_
    rintro e z1 ⟨v1, rfl, hv, hk⟩
    simp only []
    have HV := Lib.hid hv
    have HS1 : Hid (Kp0 w7 z1) := Lib.hid (HS0.out.tr hk)
    clear hv hk hcs hct
    have hcr : ∀ w' : World, Kp0 z1 w' → (convert 22 9 v1).run Try.prog w' = .ok (.string sp) w' := fun w' hw => by rw [HP.out]; exact cv_tx (HV.out.keep0 hw)
    have hcp2 : ∀ w' : World, Kp0 z1 w' → (convert 22 9 vx).run Try.prog w' = .ok (.string sp) w' := fun w' hw => hcp w' (HS1.out.tr hw)
    clear hcp
    refine hK (fun w' : World => Kp0 z1 w') _ _ (fun x h => HS1.out.tr h) (Kp.refl _ _) ?_
    clear hK K
    repeat (first
      | (refine px_quiet (v := ?_) rfl (by rfl) (fun wq hwq => ?_) rfl ?_; rotate_left 1; (focus (go_simp; try (with_reducible rfl); done)); try simp only [List.setIfInBounds_toArray, List.set_cons_zero, List.set_cons_succ])
      | (refine px_skip rfl (by rfl) rfl ?_; try simp only [List.setIfInBounds_toArray, List.set_cons_zero, List.set_cons_succ]))
    refine px_done ?_
    clear hcr hcp2 HV HX HP Ss St Sx Sy
    have K8 := Lib.hid (K7.out.tr HS1.out)
    by_cases h2 : lp.length = 32
    · have HHz : Hid (la.length = 32 ∧ lp.length = 32) := Lib.hid ⟨HH.out.1, h2⟩
      have hi := Iz.out
      rw [if_pos HHz.out] at hi
      obtain ⟨rfl, rfl⟩ := hi
      obtain ⟨bz, hbz⟩ : ∃ bz, bz = allZ (mulB la lp) := ⟨_, rfl⟩
      have hj := Iu.out
      rw [if_pos HHz.out, ← hbz] at hj
      have HJ := Lib.hid hj
      clear Iz Iu h2 hj
      obtain ⟨sy, hy⟩ : ∃ x, x = tx (mulB la lp) := ⟨_, rfl⟩
      obtain ⟨s0, h0⟩ : ∃ x, x = tx z32 := ⟨_, rfl⟩
      have heq : (sy.toList == s0.toList) = bz := by
        rw [hy, h0, tx_beq, hbz]
        by_cases hz : mulB la lp = z32
        · rw [hz, beq_self_eq_true]
          exact allZ_zero.symm
        · rw [beq_eq_false_iff_ne.2 hz, allZ_false hz (mulB_len _ _)]
      have HY := Lib.hid hy
      have H0 := Lib.hid h0
      have HBZ := Lib.hid hbz
      have hcy : ∀ w' : World, Kp0 z1 w' → (convert 22 9 vz).run Try.prog w' = .ok (.string sy) w' := fun w' hw => by rw [HY.out]; exact cv_tx (Sz.out.1.keep0 (HS1.out.tr hw))
      clear hy h0 hbz
      go_upto_region 14 with (fail)
      clear HS0
      have HS0 : Hid (Kp0 z1 z1.drew) := Lib.hid ((Kp.refl _ _).drew)
      refine wp_region_px 9 [] (fun w' : World => Kp0 z1 w') (.quiet 0 (.quiet 1 (.quiet 2 (.quiet 3 (.quiet 4 (.eff 5 (.quiet 6 (.quiet 7 (.quiet 8 .done))))))))) (by kernel_rfl) (by kernel_rfl) (by kernel_rfl) (by kernel_rfl) (fun _ d _ _ _ h => by cases d <;> exact h) HS0.out ?_
      repeat (first
        | (refine px_quiet (v := ?_) rfl (by rfl) (fun wq hwq => ?_) rfl ?_; rotate_left 1; (focus (go_simp; try (with_reducible rfl); done)); try simp only [List.setIfInBounds_toArray, List.set_cons_zero, List.set_cons_succ])
        | (refine px_skip rfl (by rfl) rfl ?_; try simp only [List.setIfInBounds_toArray, List.set_cons_zero, List.set_cons_succ]))
      refine px_eff rfl (by rfl) (fun K hK => ?_)
      go_simp
      have HT1 : Hid (Kp0 z1 (z1.drew.alloc (.cells (bys z32).toArray 5))) := Lib.hid (HS0.out.alloc _)
      have HB9 : Hid (Blk (z1.drew.alloc (.cells (bys z32).toArray 5)) z1.drew.heap.size 5 (bys z32)) := Lib.hid (blk0 _ _ _)
      refine hK (fun w' : World => Kp0 (z1.drew.alloc (.cells (bys z32).toArray 5)) w') _ _ (fun x h => HT1.out.tr h) (Kp.refl _ _) ?_
      clear hK K
      change PX.wp _ _ _ _ _ _ (z1.drew.alloc (.cells (bys z32).toArray 5))
      generalize (z1.drew.alloc (.cells (bys z32).toArray 5)) = z2 at HT1 HB9 ⊢
      have hc0 : ∀ w' : World, Kp0 z2 w' → (convert 22 9 (.slice (some ⟨z1.heap.size, 0, none⟩) 32 32)).run Try.prog w' = .ok (.string s0) w' := fun w' hw => by rw [H0.out]; exact cv_tx ((blk_rd32 HB9.out rfl).keep0 hw)
      have hcy2 : ∀ w' : World, Kp0 z2 w' → (convert 22 9 vz).run Try.prog w' = .ok (.string sy) w' := fun w' hw => hcy w' (HT1.out.tr hw)
      clear hcy
      repeat (first
        | (refine px_quiet (v := ?_) rfl (by rfl) (fun wq hwq => ?_) rfl ?_; rotate_left 1; (focus (go_simp; try (with_reducible rfl); done)); try simp only [List.setIfInBounds_toArray, List.set_cons_zero, List.set_cons_succ])
        | (refine px_skip rfl (by rfl) rfl ?_; try simp only [List.setIfInBounds_toArray, List.set_cons_zero, List.set_cons_succ]))
      refine px_done ?_
      clear hc0 hcy2 heq
      have hj := HJ.out
      cases bz
      · rw [if_neg (by simp)] at hj
        obtain ⟨rfl, rfl⟩ := hj
        have cu : (convert 22 9 vu).run Try.prog z2 = .ok (.string sy) z2 := by rw [HY.out]; exact cv_tx (Su.out.1.keep0 ((Sz.out.2.2.tr HS1.out).tr HT1.out))
        have cz : (convert 22 9 vz).run Try.prog z2 = .ok (.string sy) z2 := by rw [HY.out]; exact cv_tx (Sz.out.1.keep0 (HS1.out.tr HT1.out))
        clear HJ HY
        go_wp2
        go_ret
        exact ⟨rfl, K8.out.tr HT1.out⟩
      · rw [if_pos rfl] at hj
        obtain ⟨rfl, rfl, rfl⟩ := hj
        clear HJ
        go_wp2
        go_ret
        exact ⟨rfl, K8.out.tr HT1.out⟩
    · have HN : Hid (¬ (la.length = 32 ∧ lp.length = 32)) := Lib.hid (fun e => h2 e.2)
      have hi := Iz.out
      rw [if_neg HN.out] at hi
      obtain ⟨rfl, rfl, rfl⟩ := hi
      have hj := Iu.out
      rw [if_neg HN.out] at hj
      obtain ⟨rfl, rfl, rfl⟩ := hj
      clear Iz Iu h2
      obtain ⟨s0, h0⟩ : ∃ x, x = tx [] := ⟨_, rfl⟩
      have H0 := Lib.hid h0
      clear h0
      go_upto_region 14 with (fail)
      clear HS0
      have HS0 : Hid (Kp0 z1 z1.drew) := Lib.hid ((Kp.refl _ _).drew)
      refine wp_region_px 9 [] (fun w' : World => Kp0 z1 w') (.quiet 0 (.quiet 1 (.quiet 2 (.quiet 3 (.quiet 4 (.eff 5 (.quiet 6 (.quiet 7 (.quiet 8 .done))))))))) (by kernel_rfl) (by kernel_rfl) (by kernel_rfl) (by kernel_rfl) (fun _ d _ _ _ h => by cases d <;> exact h) HS0.out ?_
      repeat (first
        | (refine px_quiet (v := ?_) rfl (by rfl) (fun wq hwq => ?_) rfl ?_; rotate_left 1; (focus (go_simp; try (with_reducible rfl); done)); try simp only [List.setIfInBounds_toArray, List.set_cons_zero, List.set_cons_succ])
        | (refine px_skip rfl (by rfl) rfl ?_; try simp only [List.setIfInBounds_toArray, List.set_cons_zero, List.set_cons_succ]))
      refine px_skipE rfl (by rfl) rfl ?_
      try simp only [List.setIfInBounds_toArray, List.set_cons_zero, List.set_cons_succ]
      repeat (first
        | (refine px_quiet (v := ?_) rfl (by rfl) (fun wq hwq => ?_) rfl ?_; rotate_left 1; (focus (go_simp; try (with_reducible rfl); done)); try simp only [List.setIfInBounds_toArray, List.set_cons_zero, List.set_cons_succ])
        | (refine px_skip rfl (by rfl) rfl ?_; try simp only [List.setIfInBounds_toArray, List.set_cons_zero, List.set_cons_succ]))
      refine px_done ?_
      have c0 : (convert 22 9 (.slice none 0 0)).run Try.prog z1.drew = .ok (.string s0) z1.drew := by rw [H0.out]; exact cv_tx (Rd.nil _)
      clear H0
      go_wp2
      go_ret
      exact ⟨rfl, K8.out.tr HS0.out⟩
  · by_cases h1 : la.length = 32
    · have h2 : lb.length ≠ 32 := fun e => h ⟨h1, e⟩
      have ba : ((la.length : Int) != 32) = false := by rw [bne_eq_false_iff_eq]; omega
      have bb : ((lb.length : Int) != 32) = true := by rw [bne_iff_ne]; omega
      have e1 : ((la.length : Int) == 32) = true := by rw [beq_iff_eq]; omega
      have HH := Lib.hid h1
      clear h h1 h2
      go_wp2_with fail
      refine (pub4_any _ la _ (Ha.out.keep0 K1.out)).mono ?_
      rintro e w2 ⟨vx, lx, nx, rfl, hs, hi⟩
      have Sx := Lib.hid hs
      have Ix := Lib.hid hi
      clear hs hi
      have hi := Ix.out
      rw [if_pos ⟨HH.out, nine_len⟩] at hi
      obtain ⟨rfl, rfl⟩ := hi
      clear Ix
      go_wp2
      go_ret
      exact ⟨rfl, K1.out.tr Sx.out.2.2⟩
    · have ba : ((la.length : Int) != 32) = true := by rw [bne_iff_ne]; omega
      have e1 : ((la.length : Int) == 32) = false := by rw [beq_eq_false_iff_ne]; omega
      have HH := Lib.hid h1
      clear h h1
      go_wp2_with fail
      refine (pub4_any _ la _ (Ha.out.keep0 K1.out)).mono ?_
      rintro e w2 ⟨vx, lx, nx, rfl, hs, hi⟩
      have Sx := Lib.hid hs
      have Ix := Lib.hid hi
      clear hs hi
      have hi := Ix.out
      rw [if_neg (fun e => HH.out e.1)] at hi
      obtain ⟨rfl, rfl, rfl⟩ := hi
      clear Ix
      go_wp2
      go_ret
      exact ⟨rfl, K1.out.tr Sx.out.2.2⟩
end Go.Proofs.Ytcnehbfcagghpaa
