/- The laws of package ladder: their walks. -/
import Derived.Test.YtcnehbfcagghpaaFit4
namespace Go.Proofs.Ytcnehbfcagghpaa
open Go Go.RowKit
theorem tm2 (a : Int) : -1 ≤ a.tmod 2 ∧ a.tmod 2 ≤ 1 := by
  have h1 := Int.lt_tmod_of_pos a (show (0 : Int) < 2 by omega)
  have h2 := Int.tmod_lt_of_pos a (show (0 : Int) < 2 by omega)
  omega
set_option maxRecDepth 20000 in
set_option maxHeartbeats 8000000 in
theorem lmults_walk (vk : Value) (lk : List UInt8) (vu : Value) (lu : List UInt8) (w : World) (hk : Rd w vk (bys lk)) (ok : ∀ g, vk.ownBlock = some g → g < w.heap.size) (hu : Rd w vu (bys lu)) (ou : ∀ g, vu.ownBlock = some g → g < w.heap.size) :
    Calls Try.prog 3 #[vk, vu] w fun e w' => e = .returned (.bool true) ∧ Kp0 w w' := by
  obtain ⟨ak, ck, rfl, _, _, _⟩ := hk.shapeB
  have Hk := Lib.hid hk
  have Ok := Lib.hid ok
  obtain ⟨au, cu, rfl, _, _, _⟩ := hu.shapeB
  have Hu := Lib.hid hu
  have Ou := Lib.hid ou
  clear hk ok hu ou
  go_enter Try.func3, Try.ntmps3
  go_wp2_with fail
  refine (fit4_any _).mono ?_
  rintro e w1 ⟨rfl, hk1⟩
  have K1 := Lib.hid hk1
  clear hk1
  go_wp2_with fail
  refine (mult4_any _ _ lk lu _ (Hk.out.keep0 K1.out) (Hu.out.keep0 K1.out) (fun g hg => Nat.lt_of_lt_of_le (Ou.out g hg) K1.out.size)).mono ?_
  rintro e w2 ⟨vx, lx, nx, rfl, hs, hi⟩
  have Sx := Lib.hid hs
  have Ix := Lib.hid hi
  clear hs hi
  by_cases h : lk.length = 32 ∧ lu.length = 32
  · have hi := Ix.out
    rw [if_pos h] at hi
    obtain ⟨rfl, rfl⟩ := hi
    have HH := Lib.hid h
    have bk : ((lk.length : Int) != 32) = false := by rw [bne_eq_false_iff_eq]; omega
    have bu : ((lu.length : Int) != 32) = false := by rw [bne_eq_false_iff_eq]; omega
    clear Ix h
    obtain ⟨x, hx⟩ : ∃ x, x = tx (mulB lk lu) := ⟨_, rfl⟩
    have HX := Lib.hid hx
    have hcx : ∀ w' : World, Kp0 w2 w' → (convert 22 9 vx).run Try.prog w' = .ok (.string x) w' := fun w' hw => by rw [HX.out]; exact cv_tx (Sx.out.1.keep0 hw)
    clear hx
    go_upto_region 6 with (fail)
    have HS0 : Hid (Kp0 w2 w2.drew) := Lib.hid ((Kp.refl _ _).drew)
    refine wp_region_px 12 [] (fun w' : World => Kp0 w2 w') (.quiet 0 (.quiet 1 (.quiet 2 (.quiet 3 (.quiet 5 (.quiet 6 (.quiet 4 (.eff 7 (.quiet 8 (.quiet 9 (.quiet 10 (.quiet 11 .done)))))))))))) (by kernel_rfl) (by kernel_rfl) (by kernel_rfl) (by kernel_rfl) (fun _ d _ _ _ h => by cases d <;> exact h) HS0.out ?_
    repeat (first
      | (refine px_quiet (v := ?_) rfl (by rfl) (fun wq hwq => ?_) rfl ?_; rotate_left 1; (focus (go_simp; try (with_reducible rfl); done)); try simp only [List.setIfInBounds_toArray, List.set_cons_zero, List.set_cons_succ])
      | (refine px_skip rfl (by rfl) rfl ?_; try simp only [List.setIfInBounds_toArray, List.set_cons_zero, List.set_cons_succ]))
    refine px_eff rfl (by rfl) (fun K hK => ?_)
    go_simp
    refine (mult_any _ _ lk lu _ (Hk.out.keep0 ((K1.out.tr Sx.out.2.2).tr HS0.out)) (Hu.out.keep0 ((K1.out.tr Sx.out.2.2).tr HS0.out)) HH.out.1 HH.out.2 (fun g hg => Nat.lt_of_lt_of_le (Ok.out g hg) ((K1.out.tr Sx.out.2.2).tr HS0.out).size) (fun g hg => Nat.lt_of_lt_of_le (Ou.out g hg) ((K1.out.tr Sx.out.2.2).tr HS0.out).size)).mono ?_
    rintro e z1 ⟨v1, rfl, hv, hk⟩
    simp only []
    have HV := Lib.hid hv
    have HS1 : Hid (Kp0 w2 z1) := Lib.hid (HS0.out.tr hk)
    clear hv hk hcx
    have hcy : ∀ w' : World, Kp0 z1 w' → (convert 22 9 v1).run Try.prog w' = .ok (.string x) w' := fun w' hw => by rw [HX.out]; exact cv_tx (HV.out.keep0 hw)
    refine hK (fun w' : World => Kp0 z1 w') _ _ (fun x h => HS1.out.tr h) (Kp.refl _ _) ?_
    clear hK K
    repeat (first
      | (refine px_quiet (v := ?_) rfl (by rfl) (fun wq hwq => ?_) rfl ?_; rotate_left 1; (focus (go_simp; try (with_reducible rfl); done)); try simp only [List.setIfInBounds_toArray, List.set_cons_zero, List.set_cons_succ])
      | (refine px_skip rfl (by rfl) rfl ?_; try simp only [List.setIfInBounds_toArray, List.set_cons_zero, List.set_cons_succ]))
    refine px_done ?_
    clear hcy
    go_wp2
    go_ret
    exact ⟨rfl, (K1.out.tr Sx.out.2.2).tr HS1.out⟩
  · have hi := Ix.out
    rw [if_neg h] at hi
    obtain ⟨rfl, rfl, rfl⟩ := hi
    clear Ix
    by_cases h1 : lk.length = 32
    · have h2 : lu.length ≠ 32 := fun e => h ⟨h1, e⟩
      have bk : ((lk.length : Int) != 32) = false := by rw [bne_eq_false_iff_eq]; omega
      have bu : ((lu.length : Int) != 32) = true := by rw [bne_iff_ne]; omega
      clear h h1 h2
      go_wp2
      go_ret
      exact ⟨rfl, K1.out.tr Sx.out.2.2⟩
    · have bk : ((lk.length : Int) != 32) = true := by rw [bne_iff_ne]; omega
      clear h h1
      go_wp2
      go_ret
      exact ⟨rfl, K1.out.tr Sx.out.2.2⟩
set_option maxRecDepth 20000 in
set_option maxHeartbeats 8000000 in
theorem lorder_walk (va : Value) (la : List UInt8) (vb : Value) (lb : List UInt8) (vu : Value) (lu : List UInt8) (w : World) (ha : Rd w va (bys la)) (oa : ∀ g, va.ownBlock = some g → g < w.heap.size) (hb : Rd w vb (bys lb)) (ob : ∀ g, vb.ownBlock = some g → g < w.heap.size) (hu : Rd w vu (bys lu)) (ou : ∀ g, vu.ownBlock = some g → g < w.heap.size) :
    Calls Try.prog 6 #[va, vb, vu] w fun e w' => e = .returned (.bool true) ∧ Kp0 w w' := by
  obtain ⟨aa, ca, rfl, _, _, _⟩ := ha.shapeB
  have Ha := Lib.hid ha
  have Oa := Lib.hid oa
  obtain ⟨ab, cb, rfl, _, _, _⟩ := hb.shapeB
  have Hb := Lib.hid hb
  have Ob := Lib.hid ob
  obtain ⟨au, cu, rfl, _, _, _⟩ := hu.shapeB
  have Hu := Lib.hid hu
  have Ou := Lib.hid ou
  clear ha oa hb ob hu ou
  go_enter Try.func6, Try.ntmps6
  go_wp2_with fail
  refine (fit4_any _).mono ?_
  rintro e w1 ⟨rfl, hk1⟩
  have K1 := Lib.hid hk1
  clear hk1
  by_cases h : la.length = 32 ∧ lb.length = 32 ∧ lu.length = 32
  · have HH := Lib.hid h
    have ba : ((la.length : Int) != 32) = false := by rw [bne_eq_false_iff_eq]; omega
    have bb : ((lb.length : Int) != 32) = false := by rw [bne_eq_false_iff_eq]; omega
    have bu : ((lu.length : Int) != 32) = false := by rw [bne_eq_false_iff_eq]; omega
    clear h
    have HHx : Hid (la.length = 32 ∧ lu.length = 32) := Lib.hid ⟨HH.out.1, HH.out.2.2⟩
    have HHy : Hid (lb.length = 32 ∧ lu.length = 32) := Lib.hid ⟨HH.out.2.1, HH.out.2.2⟩
    go_wp2_with fail
    refine (mult4_any _ _ la lu _ (Ha.out.keep0 K1.out) (Hu.out.keep0 K1.out) (fun g hg => Nat.lt_of_lt_of_le (Ou.out g hg) K1.out.size)).mono ?_
    rintro e w2 ⟨vx, lx, nx, rfl, hs, hi⟩
    have Sx := Lib.hid hs
    have Ix := Lib.hid hi
    clear hs hi
    have hi := Ix.out
    rw [if_pos HHx.out] at hi
    obtain ⟨rfl, rfl⟩ := hi
    clear Ix
    have K2 := Lib.hid (K1.out.tr Sx.out.2.2)
    go_wp2_with fail
    refine (mult4_any _ _ lb lu _ (Hb.out.keep0 K2.out) (Hu.out.keep0 K2.out) (fun g hg => Nat.lt_of_lt_of_le (Ou.out g hg) K2.out.size)).mono ?_
    rintro e w3 ⟨vy, ly, ny, rfl, hs, hi⟩
    have Sy := Lib.hid hs
    have Iy := Lib.hid hi
    clear hs hi
    have hi := Iy.out
    rw [if_pos HHy.out] at hi
    obtain ⟨rfl, rfl⟩ := hi
    clear Iy
    have K3 := Lib.hid (K2.out.tr Sy.out.2.2)
    have HHp : Hid (lb.length = 32 ∧ (mulB la lu).length = 32) := Lib.hid ⟨HH.out.2.1, mulB_len _ _⟩
    have HHq : Hid (la.length = 32 ∧ (mulB lb lu).length = 32) := Lib.hid ⟨HH.out.1, mulB_len _ _⟩
    go_wp2_with fail
    refine (mult4_any _ _ lb (mulB la lu) _ (Hb.out.keep0 K3.out) (Sx.out.1.keep0 Sy.out.2.2) (Sx.out.own Sy.out.2.2)).mono ?_
    rintro e w4 ⟨vp, lp, np, rfl, hs, hi⟩
    have Sp := Lib.hid hs
    have Ip := Lib.hid hi
    clear hs hi
    have hi := Ip.out
    rw [if_pos HHp.out] at hi
    obtain ⟨rfl, rfl⟩ := hi
    clear Ip
    have K4 := Lib.hid (K3.out.tr Sp.out.2.2)
    go_wp2_with fail
    refine (mult4_any _ _ la (mulB lb lu) _ (Ha.out.keep0 K4.out) (Sy.out.1.keep0 Sp.out.2.2) (Sy.out.own Sp.out.2.2)).mono ?_
    rintro e w5 ⟨vq, lq, nq, rfl, hs, hi⟩
    have Sq := Lib.hid hs
    have Iq := Lib.hid hi
    clear hs hi
    have hi := Iq.out
    rw [if_pos HHq.out] at hi
    obtain ⟨rfl, rfl⟩ := hi
    clear Iq
    obtain ⟨po, pc, hvp, _, _, _⟩ := Sp.out.1.shapeB
    rw [mulB_len] at hvp
    obtain ⟨x, hx⟩ : ∃ x, x = tx (mulB lb (mulB la lu)) := ⟨_, rfl⟩
    have cp := cv_tx (Sp.out.1.keep0 Sq.out.2.2)
    have cq := cv_tx Sq.out.1
    rw [← mulB_swap lu HH.out.1 HH.out.2.1, ← hx] at cq
    rw [← hx] at cp
    have KF := Lib.hid (K4.out.tr Sq.out.2.2)
    clear hx Sx Sy Sp Sq HHx HHy HHp HHq HH
    subst hvp
    go_wp2
    go_ret
    exact ⟨rfl, KF.out⟩
  · by_cases h1 : la.length = 32
    · by_cases h2 : lb.length = 32
      · have h3 : lu.length ≠ 32 := fun e => h ⟨h1, h2, e⟩
        have ba : ((la.length : Int) != 32) = false := by rw [bne_eq_false_iff_eq]; omega
        have bb : ((lb.length : Int) != 32) = false := by rw [bne_eq_false_iff_eq]; omega
        have bu : ((lu.length : Int) != 32) = true := by rw [bne_iff_ne]; omega
        clear h h1 h2 h3
        go_wp2
        go_ret
        exact ⟨rfl, K1.out⟩
      · have ba : ((la.length : Int) != 32) = false := by rw [bne_eq_false_iff_eq]; omega
        have bb : ((lb.length : Int) != 32) = true := by rw [bne_iff_ne]; omega
        clear h h1 h2
        go_wp2
        go_ret
        exact ⟨rfl, K1.out⟩
    · have ba : ((la.length : Int) != 32) = true := by rw [bne_iff_ne]; omega
      clear h h1
      go_wp2
      go_ret
      exact ⟨rfl, K1.out⟩
set_option maxRecDepth 20000 in
set_option maxHeartbeats 8000000 in
theorem lsmall_walk (vk : Value) (lk : List UInt8) (a : Int) (w : World) (hk : Rd w vk (bys lk)) (ok : ∀ g, vk.ownBlock = some g → g < w.heap.size) (ha : -9223372036854775808 ≤ a ∧ a ≤ 9223372036854775807) :
    Calls Try.prog 7 #[vk, .int .i64 a] w fun e w' => e = .returned (.bool true) ∧ Kp0 w w' := by
  obtain ⟨ak, ck, rfl, _, _, _⟩ := hk.shapeB
  have Hk := Lib.hid hk
  have Ok := Lib.hid ok
  clear hk ok
  have hmk := mk32
  obtain ⟨t, ht, ht1, ht2⟩ : ∃ t : Int, a.tmod 2 = t ∧ -1 ≤ t ∧ t ≤ 1 := ⟨_, rfl, (tm2 a).1, (tm2 a).2⟩
  obtain ⟨r, hr, hr2⟩ : ∃ r : Nat, (t + 2).tmod 2 = (r : Int) ∧ r < 2 := ⟨((t + 2).tmod 2).toNat, by rw [Int.tmod_eq_emod_of_nonneg (by omega)]; omega, by rw [Int.tmod_eq_emod_of_nonneg (by omega)]; omega⟩
  have ha1 := ha.1
  have ha2 := ha.2
  clear ha
  go_enter Try.func7, Try.ntmps7
  go_wp2_with fail
  refine (fit4_any _).mono ?_
  rintro e w1 ⟨rfl, hk1⟩
  have K1 := Lib.hid hk1
  clear hk1
  go_upto_region 4 with (fail)
  obtain ⟨g, hg⟩ : ∃ g, g = w1.heap.size := ⟨_, rfl⟩
  obtain ⟨w2, hw2⟩ : ∃ w2, w2 = w1.alloc (.cells (bys z32).toArray 5) := ⟨_, rfl⟩
  have HB : Hid (Blk w2 g 5 (bys z32)) := Lib.hid (by rw [hw2, hg]; exact blk0 w1 _ _)
  have K2 : Hid (Kp0 w w2) := Lib.hid (by rw [hw2]; exact K1.out.alloc _)
  have hwg : w.heap.size ≤ g := by rw [hg]; exact K1.out.size
  rw [← hw2, ← hg]
  clear hw2 hg K1
  have hc0 := HB.out.cellB 0 (by decide)
  have hf0 := blk_frozen HB.out 0
  have hr256 : (r : Int) < 256 := by omega
  go_upto_region 5 with (fail)
  obtain ⟨w3, hw3⟩ : ∃ w3, w3 = w2.setCell ⟨g, 0, none⟩ (.int .u8 (r : Int)) := ⟨_, rfl⟩
  have HB3 : Hid (Blk w3 g 5 (bys (z32.set 0 (UInt8.ofNat r)))) := Lib.hid (by
    have h := HB.out.setB 0 (UInt8.ofNat r)
    rw [show (((UInt8.ofNat r).toNat : Nat) : Int) = (r : Int) by rw [UInt8.toNat_ofNat']; omega] at h
    rw [hw3]
    exact h)
  have K3 : Hid (Kp0 w w3) := Lib.hid (by rw [hw3]; exact K2.out.setCell (p := ⟨g, 0, none⟩) (fun hlt => absurd hlt (by simp; omega)) _)
  obtain ⟨u, hu⟩ : ∃ u, u = z32.set 0 (UInt8.ofNat r) := ⟨_, rfl⟩
  have HU : Hid (u.length = 32 ∧ (readU u = 0 ∨ readU u = 1)) := Lib.hid (by
    rw [hu]
    refine ⟨by simp [z32], ?_⟩
    have : r = 0 ∨ r = 1 := by omega
    rcases this with rfl | rfl
    · exact .inl (by decide)
    · exact .inr (by decide))
  rw [← hu] at HB3
  rw [← hw3]
  clear hu hw3 hc0 hf0 K2 HB hr hr2 hr256 ht ht1 ht2 ha1 ha2
  have HO : Hid (∀ b, (Value.slice (some ⟨g, 0, none⟩) 32 32).ownBlock = some b → b < w3.heap.size) := Lib.hid (own_at HB3.out.lt)
  by_cases h : lk.length = 32
  · have HH := Lib.hid h
    have bk : ((lk.length : Int) != 32) = false := by rw [bne_eq_false_iff_eq]; omega
    clear h
    have HHx : Hid (lk.length = 32 ∧ u.length = 32) := Lib.hid ⟨HH.out, HU.out.1⟩
    have HM : Hid (mulB lk u = z32) := Lib.hid (mulB_small HH.out HU.out.2)
    have HAZ : Hid (allZ (mulB lk u) = true) := Lib.hid (by rw [HM.out]; exact allZ_zero)
    go_wp2_with fail
    refine (mult4_any _ _ lk u _ (Hk.out.keep0 K3.out) (blk_rd32 HB3.out HU.out.1) (HO.out)).mono ?_
    rintro e w4 ⟨vx, lx, nx, rfl, hs, hi⟩
    have Sx := Lib.hid hs
    have Ix := Lib.hid hi
    clear hs hi
    have hi := Ix.out
    rw [if_pos HHx.out] at hi
    obtain ⟨rfl, rfl⟩ := hi
    clear Ix
    go_wp2_with fail
    refine (sha4_any _ _ lk u _ (Hk.out.keep0 (K3.out.tr Sx.out.2.2)) ((blk_rd32 HB3.out HU.out.1).keep0 Sx.out.2.2) ((fun b hb => Nat.lt_of_lt_of_le (HO.out b hb) Sx.out.2.2.size))).mono ?_
    rintro e w5 ⟨vy, ly, ny, rfl, hs, hi⟩
    have Sy := Lib.hid hs
    have Iy := Lib.hid hi
    clear hs hi
    have hi := Iy.out
    rw [if_pos HHx.out, if_pos HAZ.out] at hi
    obtain ⟨rfl, rfl, rfl⟩ := hi
    clear Iy
    obtain ⟨x, hx⟩ : ∃ x, x = tx z32 := ⟨_, rfl⟩
    have HX := Lib.hid hx
    clear hx
    have hcx : ∀ w' : World, Kp0 w5 w' → (convert 22 9 vx).run Try.prog w' = .ok (.string x) w' := fun w' hw => by rw [HX.out, ← HM.out]; exact cv_tx (Sx.out.1.keep0 (Sy.out.2.2.tr hw))
    have K5 := Lib.hid ((K3.out.tr Sx.out.2.2).tr Sy.out.2.2)
    go_upto_region 10 with (fail)
    have HS0 : Hid (Kp0 w5 w5.drew) := Lib.hid ((Kp.refl _ _).drew)
    refine wp_region_px 19 [] (fun w' : World => Kp0 w5 w') (.quiet 0 (.quiet 1 (.quiet 2 (.quiet 3 (.quiet 4 (.eff 5 (.quiet 6 (.quiet 7 (.quiet 8 (.quiet 9 (.quiet 10 (.quiet 11 (.quiet 12 (.quiet 13 (.quiet 14 (.quiet 15 (.quiet 16 (.quiet 17 (.quiet 18 .done))))))))))))))))))) (by kernel_rfl) (by kernel_rfl) (by kernel_rfl) (by kernel_rfl) (fun _ d _ _ _ h => by cases d <;> exact h) HS0.out ?_
    repeat (first
      | (refine px_quiet (v := ?_) rfl (by rfl) (fun wq hwq => ?_) rfl ?_; rotate_left 1; (focus (go_simp; try (with_reducible rfl); done)); try simp only [List.setIfInBounds_toArray, List.set_cons_zero, List.set_cons_succ])
      | (refine px_skip rfl (by rfl) rfl ?_; try simp only [List.setIfInBounds_toArray, List.set_cons_zero, List.set_cons_succ]))
    refine px_eff rfl (by rfl) (fun K hK => ?_)
    go_simp
    have HS1 : Hid (Kp0 w5 (w5.drew.alloc (.cells (bys z32).toArray 5))) := Lib.hid (HS0.out.alloc _)
    have HB9 : Hid (Blk (w5.drew.alloc (.cells (bys z32).toArray 5)) w5.drew.heap.size 5 (bys z32)) := Lib.hid (blk0 _ _ _)
    refine hK (fun w' : World => Kp0 (w5.drew.alloc (.cells (bys z32).toArray 5)) w') _ _ (fun x h => HS1.out.tr h) (Kp.refl _ _) ?_
    clear hK K hcx
    change PX.wp _ _ _ _ _ _ (w5.drew.alloc (.cells (bys z32).toArray 5))
    generalize (w5.drew.alloc (.cells (bys z32).toArray 5)) = z1 at HS1 HB9 ⊢
    have hcy : ∀ w' : World, Kp0 z1 w' → (convert 22 9 (.slice (some ⟨w5.heap.size, 0, none⟩) 32 32)).run Try.prog w' = .ok (.string x) w' := fun w' hw => by rw [HX.out]; exact cv_tx ((blk_rd32 HB9.out rfl).keep0 hw)
    repeat (first
      | (refine px_quiet (v := ?_) rfl (by rfl) (fun wq hwq => ?_) rfl ?_; rotate_left 1; (focus (go_simp; try (with_reducible rfl); done)); try simp only [List.setIfInBounds_toArray, List.set_cons_zero, List.set_cons_succ])
      | (refine px_skip rfl (by rfl) rfl ?_; try simp only [List.setIfInBounds_toArray, List.set_cons_zero, List.set_cons_succ]))
    refine px_done ?_
    clear hcy
    go_wp2
    go_ret
    exact ⟨rfl, K5.out.tr HS1.out⟩
  · have bk : ((lk.length : Int) != 32) = true := by rw [bne_iff_ne]; omega
    go_wp2_with fail
    refine (sha4_any _ _ lk u _ (Hk.out.keep0 K3.out) (blk_rd32 HB3.out HU.out.1) (HO.out)).mono ?_
    rintro e w4 ⟨vy, ly, ny, rfl, hs, hi⟩
    have Sy := Lib.hid hs
    have Iy := Lib.hid hi
    clear hs hi
    have hi := Iy.out
    rw [if_neg (fun e => h e.1)] at hi
    obtain ⟨rfl, rfl, rfl⟩ := hi
    clear Iy h
    go_wp2
    go_ret
    exact ⟨rfl, K3.out.tr Sy.out.2.2⟩
end Go.Proofs.Ytcnehbfcagghpaa
