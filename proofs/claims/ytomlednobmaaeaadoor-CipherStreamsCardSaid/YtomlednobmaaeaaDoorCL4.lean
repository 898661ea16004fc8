/- The laws of package cipher: turned again. -/
import Derived.Test.YtomlednobmaaeaaDoorCL3
namespace Go.Proofs.YtomlednobmaaeaaDoor
open Go Go.RowKit
theorem kxB_self (x y : UInt8) : kxB (kxB x y) y = x := by
  unfold kxB
  rw [UInt8.xor_assoc, UInt8.xor_self, UInt8.xor_zero]
theorem xorB_back (ks : List (BitVec 32)) (c : List UInt8) (l : List UInt8) (n : Nat) (hn : n ≤ l.length) : xorB ks c 0 ((xorB ks c 0 l).take n) ++ xorB ks c (0 + ((xorB ks c 0 l).take n).length) ((xorB ks c 0 l).drop n) = l := by
  have hl := xorB_len ks c 0 l
  have ht : ((xorB ks c 0 l).take n).length = n := by rw [List.length_take]; omega
  rw [ht, Nat.zero_add]
  apply List.ext_getElem?
  intro i
  by_cases hi : i < n
  · rw [List.getElem?_append_left (by rw [xorB_len, ht]; exact hi)]
    have h1 : l[i]? = some (l[i]'(by omega)) := List.getElem?_eq_getElem _
    rw [xorB_get (x := kxB (l[i]'(by omega)) (kb ks c (0 + i))) ks c 0 (by rw [List.getElem?_take, if_pos hi]; exact xorB_get ks c 0 h1), kxB_self, h1]
  · rw [List.getElem?_append_right (by rw [xorB_len, ht]; omega), xorB_len, ht]
    by_cases h2 : i < l.length
    · have h1 : l[i]? = some (l[i]'h2) := List.getElem?_eq_getElem _
      have h3 := xorB_get ks c 0 h1
      rw [xorB_get (x := kxB (l[i]'h2) (kb ks c (0 + i))) ks c n (by rw [List.getElem?_drop, show n + (i - n) = i by omega]; exact h3), show n + (i - n) = 0 + i by omega, kxB_self, h1]
    · rw [List.getElem?_eq_none (by rw [xorB_len, List.length_drop]; omega), List.getElem?_eq_none (by omega)]
theorem tx_size (a : List UInt8) : (tx a).size = a.length := rfl
theorem tx_app (a b : List UInt8) : tx a ++ tx b = tx (a ++ b) := by
  apply str_ext
  unfold tx
  rw [ByteArray.toList_mk, ByteArray.toList_eq]
  show (ByteArray.mk a.toArray ++ ByteArray.mk b.toArray).data.toList = a ++ b
  rw [ByteArray.data_append]
  simp
theorem cut_num (a : Int) (m : Nat) (hm : 0 < m) (hm2 : m ≤ 501) : ∃ (t : Int) (n : Nat), a.tmod (m : Int) = t ∧ -(m : Int) < t ∧ t < (m : Int) ∧ (t + ((m - 1 : Nat) : Int) + 1).tmod (m : Int) = (n : Int) ∧ n ≤ m - 1 := by
  have h1 := Int.lt_tmod_of_pos a (show (0 : Int) < m by omega)
  have h2 := Int.tmod_lt_of_pos a (show (0 : Int) < m by omega)
  refine ⟨a.tmod m, ((a.tmod m + ((m - 1 : Nat) : Int) + 1) % (m : Int)).toNat, rfl, by omega, h2, ?_, ?_⟩
  · rw [Int.tmod_eq_emod_of_nonneg (by omega)]
    have := Int.emod_nonneg (a.tmod m + ((m - 1 : Nat) : Int) + 1) (show (m : Int) ≠ 0 by omega)
    omega
  · have := Int.emod_lt_of_pos (a.tmod m + ((m - 1 : Nat) : Int) + 1) (show (0 : Int) < m by omega)
    omega
theorem own_at {g o n c : Nat} : ∀ b, (Value.slice (some ⟨g, o, none⟩) n c).ownBlock = some b → b = g := by
  intro b h
  exact (Option.some.inj h).symm
theorem cut_rd {w : World} {g n L : Nat} {l : List UInt8} (h : Rd w (.slice (some ⟨g, 0, none⟩) L L) (bys l)) (hl : l.length = L) (hL : L ≤ 1000) (hn : n ≤ L) :
    Rd w (.slice (if L = n then some ⟨g, 0, none⟩ else some ⟨g, n, none⟩) (L - n) (L - n)) (bys (l.drop n)) ∧ ∀ b, (Value.slice (if L = n then some ⟨g, 0, none⟩ else some ⟨g, n, none⟩) (L - n) (L - n)).ownBlock = some b → b = g := by
  by_cases e : L = n
  · subst e
    rw [if_pos rfl, Nat.sub_self, List.drop_eq_nil_of_le (by omega)]
    exact ⟨Rd.empty w _ 0 (Nat.zero_le _) (fun h => by cases h), own_at⟩
  · rw [if_neg e]
    have := h.afterB n (by omega)
    rw [Nat.zero_add] at this
    exact ⟨this, own_at⟩
attribute [local irreducible] kyW colsW aesK kb xorB strm xz tx
set_option maxRecDepth 20000 in
set_option maxHeartbeats 4000000 in
theorem cback_walk (vk vc vb : Value) (lk lc lb : List UInt8) (a : Int) (w : World) (hk : Rd w vk (bys lk)) (hc : Rd w vc (bys lc)) (hb : Rd w vb (bys lb)) (ob : ∀ g, vb.ownBlock = some g → g < w.heap.size) (ha : -9223372036854775808 ≤ a ∧ a ≤ 9223372036854775807) (hq : Sqr w) :
    Calls Tryd.prog 5 #[.agg #[vk, vc], vb, .int .i64 a] w fun e w' => e = .returned (.bool true) ∧ Kp0 w w' := by
  obtain ⟨ak, ck, rfl, _, _, _⟩ := hk.shapeB
  obtain ⟨ac, cc, rfl, _, _, _⟩ := hc.shapeB
  obtain ⟨ab, cb, rfl, _, _, _⟩ := hb.shapeB
  have Hk := Lib.hid hk
  have Hc := Lib.hid hc
  have Hb := Lib.hid hb
  have Ob := Lib.hid ob
  have HQ := Lib.hid hq
  have HW0 := Lib.hid hq.lt
  have ha1 := ha.1
  have ha2 := ha.2
  clear hk hc hb ob hq ha
  go_enter Tryd.func5, Tryd.ntmps5
  go_upto_region 1 with (fail)
  have HB0 : Hid (Blk (w.alloc (.cells #[.slice ak lk.length ck, .slice ac lc.length cc] 37)) w.heap.size 37 [.slice ak lk.length ck, .slice ac lc.length cc]) := Lib.hid (blk0 w _ _)
  have HK0 : Hid (Kp0 w (w.alloc (.cells #[.slice ak lk.length ck, .slice ac lc.length cc] 37))) := Lib.hid ((Kp.refl _ w).alloc _)
  generalize (w.alloc (.cells #[.slice ak lk.length ck, .slice ac lc.length cc] 37)) = w0 at HB0 HK0 ⊢
  have hc0 := HB0.out.cellV 0 (v := .slice ak lk.length ck) rfl
  have hc1 := HB0.out.cellV 1 (v := .slice ac lc.length cc) rfl
  go_region
  have HK1 : Hid (Kp0 w w0.drew) := Lib.hid HK0.out.drew
  clear hc0 hc1 HB0 HK0
  generalize w0.drew = w1 at HK1 ⊢
  go_wp2_with fail
  refine (fit6_any _ (HQ.out.kp0 HK1.out)).mono ?_
  rintro e w2 ⟨rfl, hk2⟩
  have HK2 := Lib.hid (HK1.out.tr hk2)
  clear hk2 HK1
  by_cases h : lk.length = 16 ∧ lc.length = 16 ∧ lb.length ≤ 500
  · have HH := Lib.hid h
    have b1 : ((lk.length : Int) != 16) = false := by rw [bne_eq_false_iff_eq]; omega
    have b2 : ((lc.length : Int) != 16) = false := by rw [bne_eq_false_iff_eq]; omega
    have b3 : (lb.length : Int) ≤ 500 := by omega
    clear h
    go_upto_region 6 with (fail)
    go_upto_region 7 with (go_at_call 9
                           refine (new_any _ _ lk lc _ (Hk.out.keep0 HK2.out) (Hc.out.keep0 HK2.out) (HQ.out.kp0 HK2.out) ⟨HH.out.1, HH.out.2.1⟩).mono ?_
                           rintro e w5 ⟨g5, rfl, hs, hg, hk⟩
                           have HS5 := Lib.hid hs
                           have HG5 := Lib.hid hg
                           have HK5 := Lib.hid (HK2.out.tr hk)
                           have HL5 := Lib.hid hk
                           clear hs hg hk)
    go_upto_region 8 with (go_at_call 9
                           refine (new_any _ _ lk lc _ (Hk.out.keep0 HK5.out) (Hc.out.keep0 HK5.out) (HQ.out.kp0 HK5.out) ⟨HH.out.1, HH.out.2.1⟩).mono ?_
                           rintro e w3 ⟨g3, rfl, hs, hg, hk⟩
                           have HS3 := Lib.hid hs
                           have HG3 := Lib.hid hg
                           have HK3 := Lib.hid (HK5.out.tr hk)
                           have HL3 := Lib.hid hk
                           clear hs hg hk)
    obtain ⟨ks, hks⟩ : ∃ ks, ks = kyW (colsW lk) := ⟨_, rfl⟩
    rw [← hks] at HS5 HS3
    clear hks
    have HNG : Hid (g5 ≠ g3 ∧ w.heap.size ≤ g3 ∧ g3 ≠ 0 ∧ w.heap.size ≤ g5 ∧ g5 ≠ 0) := Lib.hid (by
      have h1 := (At.start HS5.out).lt
      have h2 := HG3.out
      have h3 := HG5.out
      have h4 := HW0.out
      have h5 := HK2.out.size
      have h6 := HK5.out.size
      exact ⟨by omega, by omega, by omega, by omega, by omega⟩)
    have HA5 : Hid (At w3 g5 ks lc 0) := Lib.hid ((At.start HS5.out).kp0 HL3.out)
    clear HS5 HG5 HG3 HL5 HL3 HK5 HK2
    obtain ⟨X, hX⟩ : ∃ X, X = xorB ks lc 0 lb := ⟨_, rfl⟩
    have HX := Lib.hid hX
    have HXL : Hid (X.length = lb.length) := Lib.hid (by rw [hX, xorB_len])
    clear hX
    obtain ⟨t, n, ht0, ht1, ht2, hn0, hn⟩ := cut_num a (lb.length + 1) (by omega) (by have := HH.out.2.2; omega)
    go_upto_region 9 with (go_at_call 11
                           refine (turn_any g5 ks lc 0 _ lb _ HA5.out (Hb.out.keep0 HK3.out) (fun b hb e => by have h1 := Ob.out b hb; have h2 := HNG.out.2.2.2.1; omega) (HQ.out.kp0 HK3.out) HNG.out.2.2.2.2 (by have := HH.out.2.2; omega)).mono ?_
                           rintro e w4 ⟨hx, rfl, hb, hh, _, hk⟩
                           have hb' := hb
                           rw [← HX.out] at hb'
                           have HBX := Lib.hid hb'
                           have HHX := Lib.hid hh
                           have HS3b : Hid (At w4 g3 ks lc 0) := Lib.hid ((At.start HS3.out).kp0' hk (fun e => HNG.out.1 e.symm))
                           have HK4 : Hid (Kp0 w w4) := Lib.hid (HK3.out.trans hk (fun _ _ h => h) (fun i hi e => by have := HNG.out.2.2.2.1; omega))
                           have HXG : Hid (hx ≠ g3) := Lib.hid (fun e => by have h1 := (At.start HS3.out).lt; omega)
                           clear hb hh hk hb')
    clear HA5 HS3 HK3
    have h0 : ¬ ((lb.length : Int) + 1 = 0) := by omega
    have hN : (RowKit.wrap64 (RowKit.wrap64 (a.tmod ((lb.length : Int) + 1) + (lb.length : Int)) + 1)).tmod ((lb.length : Int) + 1) = (n : Int) := by
      have e1 : ((lb.length + 1 : Nat) : Int) = (lb.length : Int) + 1 := by omega
      have e2 : ((lb.length + 1 - 1 : Nat) : Int) = (lb.length : Int) := by omega
      rw [e1] at ht0 ht1 ht2 hn0
      rw [e2] at hn0
      rw [ht0, IntWalk.wrap64_in (t + (lb.length : Int)) (by omega), IntWalk.wrap64_in (t + (lb.length : Int) + 1) (by omega), hn0]
    clear ht0 ht1 ht2 hn0
    go_upto_region 10 with (fail)
    clear hN
    have HNL : Hid (n ≤ lb.length) := Lib.hid (by omega)
    have HNI : Hid ((n : Int) ≤ (lb.length : Int)) := Lib.hid (by omega)
    have HRX : Hid (Rd w4 (.slice (some ⟨hx, 0, none⟩) lb.length lb.length) (bys X)) := Lib.hid (blk_rd HBX.out HXL.out (by have := HH.out.2.2; omega))
    have HR1 : Hid (Rd w4 (.slice (some ⟨hx, 0, none⟩) n lb.length) (bys (X.take n))) := Lib.hid (rd_less HRX.out (by rw [HXL.out]; exact HNL.out))
    have HR2 := Lib.hid (cut_rd HRX.out HXL.out (by have := HH.out.2.2; omega) HNL.out)
    have HXT : Hid ((X.take n).length = n) := Lib.hid (by rw [List.length_take, HXL.out]; have := HNL.out; omega)
    have HXD : Hid ((X.drop n).length = lb.length - n) := Lib.hid (by rw [List.length_drop, HXL.out])
    have hle := HNI.out
    have hle2 : n ≤ lb.length := HNL.out
    have cvb : ∀ wq, Kp (fun b => b = g3) w4.drew wq → (convert 22 9 (.slice ab lb.length cb)).run Tryd.prog wq = .ok (.string (tx lb)) wq := fun wq hk => cv_tx ((Hb.out.keep0 (HK4.out.drew)).keep hk (fun b hb _ e => by have h1 := Ob.out b hb; have h2 := HNG.out.2.1; omega))
    have HK0 : Hid (Kp0 w4.drew w4.drew) := Lib.hid (Kp.refl _ _)
    refine wp_region_px 24 [] (fun w' : World => Kp (fun b => b = g3) w4.drew w') (.quiet 0 (.quiet 1 (.quiet 2 (.quiet 3 (.quiet 4 (.quiet 5 (.quiet 6 (.quiet 7 (.quiet 8 (.quiet 9 (.quiet 12 (.quiet 13 (.quiet 14 (.quiet 15 (.quiet 19 (.quiet 20 (.eff 10 (.quiet 11 (.eff 16 (.quiet 17 (.quiet 18 (.quiet 21 (.quiet 22 (.quiet 23 .done)))))))))))))))))))))))) (by kernel_rfl) (by kernel_rfl) (by kernel_rfl) (by kernel_rfl) (fun _ d _ _ _ h => by cases d <;> exact h) (HK0.out.nil _) ?_
    repeat (refine px_quiet (v := ?_) rfl (by rfl) (fun wq hwq => ?_) rfl ?_; rotate_left 1; (focus (go_simp; try (with_reducible rfl); done)); try simp only [List.setIfInBounds_toArray, List.set_cons_zero, List.set_cons_succ])
    refine px_eff rfl (by rfl) (fun K hK => ?_)
    go_simp
    refine (turn_any g3 ks lc 0 _ (X.take n) _ (HS3b.out.kp0 (Kp.refl _ _).drew) (HR1.out.keep0 (Kp.refl _ _).drew) (fun b hb e => HXG.out (by rw [own_at b hb] at e; exact e)) ((HQ.out.kp0 HK4.out).kp0 (Kp.refl _ _).drew) HNG.out.2.2.1 (by have := HH.out.2.2; have := HXT.out; omega)).mono ?_
    rintro e z1 ⟨h1, hv1, hb1, hh1, ha1, hk1⟩
    rw [HXT.out] at hv1 ha1
    subst hv1
    simp only []
    have HA1 := Lib.hid ha1
    have HZ1 : Hid (Kp (fun b => b = g3) w4.drew z1) := Lib.hid hk1
    have HB1 := Lib.hid hb1
    have HH1 := Lib.hid hh1
    have cv1 : ∀ wq, Kp (fun b => b = g3) z1 wq → (convert 22 9 (.slice (some ⟨h1, 0, none⟩) n n)).run Tryd.prog wq = .ok (.string (tx (xorB ks lc 0 (X.take n)))) wq := fun wq hk => cv_tx (blk_rd (HB1.out.keep hk (fun e => by have a1 := HH1.out; have a2 := HS3b.out.lt; have a3 : w4.drew.heap.size = w4.heap.size := rfl; omega)) (by rw [xorB_len, HXT.out]) (by have := HH.out.2.2; omega))
    clear hb1 hh1 ha1 hk1
    refine hK (fun w' : World => Kp (fun b => b = g3) z1 w') _ _ (fun x h => HZ1.out.tr h) (Kp.refl _ _) ?_
    clear hK K
    refine px_quiet (v := ?_) rfl (by rfl) (fun wq hwq => ?_) rfl ?_; rotate_left 1; (focus (go_simp; try (with_reducible rfl); done)); try simp only [List.setIfInBounds_toArray, List.set_cons_zero, List.set_cons_succ]
    refine px_eff rfl (by rfl) (fun K hK => ?_)
    go_simp
    refine (turn_any g3 ks lc (0 + n) _ (X.drop n) _ HA1.out ((HR2.out.1.keep0 (Kp.refl _ _).drew).keep HZ1.out (fun b hb _ e => HXG.out (by rw [HR2.out.2 b hb] at e; exact e))) (fun b hb e => HXG.out (by rw [HR2.out.2 b hb] at e; exact e)) ((HQ.out.kp0 HK4.out.drew).keep HZ1.out (fun e => HNG.out.2.2.1 e.symm)) HNG.out.2.2.1 (by have := HH.out.2.2; have := HXD.out; omega)).mono ?_
    rintro e z2 ⟨h2, hv2, hb2, hh2, ha2, hk2⟩
    rw [HXD.out] at hv2
    subst hv2
    simp only []
    have HZ2 : Hid (Kp (fun b => b = g3) w4.drew z2) := Lib.hid (HZ1.out.tr hk2)
    have HZ12 := Lib.hid hk2
    have HB2 := Lib.hid hb2
    have HH2 := Lib.hid hh2
    have cv2 : ∀ wq, Kp (fun b => b = g3) z2 wq → (convert 22 9 (.slice (some ⟨h2, 0, none⟩) (lb.length - n) (lb.length - n))).run Tryd.prog wq = .ok (.string (tx (xorB ks lc (0 + n) (X.drop n)))) wq := fun wq hk => cv_tx (blk_rd (HB2.out.keep hk (fun e => by have a1 := HH2.out; have a2 := HA1.out.lt; omega)) (by rw [xorB_len, HXD.out]) (by have := HH.out.2.2; omega))
    rw [Nat.zero_add] at cv2
    have hadd : tx (xorB ks lc 0 (X.take n)) ++ tx (xorB ks lc n (X.drop n)) = tx lb := by
      rw [tx_app]
      have := xorB_back ks lc lb n HNL.out
      rw [← HX.out, HXT.out, Nat.zero_add] at this
      rw [this]
    have hsz : ¬ (9223372036854775807 < (tx (xorB ks lc 0 (X.take n))).size + (tx (xorB ks lc n (X.drop n))).size) := by
      rw [tx_size, tx_size, xorB_len, xorB_len, HXT.out, HXD.out]
      have := HH.out.2.2
      omega
    clear hb2 hh2 ha2 hk2
    refine hK (fun w' : World => Kp (fun b => b = g3) z2 w') _ _ (fun x h => HZ12.out.tr h) (Kp.refl _ _) ?_
    clear hK K
    repeat (refine px_quiet (v := ?_) rfl (by rfl) (fun wq hwq => ?_) rfl ?_; rotate_left 1; (focus (go_simp; try (with_reducible rfl); done)); try simp only [List.setIfInBounds_toArray, List.set_cons_zero, List.set_cons_succ])
    refine px_done ?_
    go_wp2
    all_goals go_ret
    all_goals exact ⟨rfl, HK4.out.trans ((Kp.refl (fun b => b = g3) w4).drew.tr HZ2.out) (fun _ _ h => h) (fun i hi e => by have := HNG.out.2.1; omega)⟩
  · by_cases g1 : lk.length = 16
    · by_cases g2 : lc.length = 16
      · have g3 : ¬ lb.length ≤ 500 := fun e => h ⟨g1, g2, e⟩
        have b1 : ((lk.length : Int) != 16) = false := by rw [bne_eq_false_iff_eq]; omega
        have b2 : ((lc.length : Int) != 16) = false := by rw [bne_eq_false_iff_eq]; omega
        have b3 : 500 < (lb.length : Int) := by omega
        clear h g1 g2 g3
        go_wp2
        go_ret
        exact ⟨rfl, HK2.out⟩
      · have b1 : ((lk.length : Int) != 16) = false := by rw [bne_eq_false_iff_eq]; omega
        have b2 : ((lc.length : Int) != 16) = true := by rw [bne_iff_ne]; omega
        clear h g1 g2
        go_wp2
        go_ret
        exact ⟨rfl, HK2.out⟩
    · have b1 : ((lk.length : Int) != 16) = true := by rw [bne_iff_ne]; omega
      clear h g1
      go_wp2
      go_ret
      exact ⟨rfl, HK2.out⟩
end Go.Proofs.YtomlednobmaaeaaDoor
