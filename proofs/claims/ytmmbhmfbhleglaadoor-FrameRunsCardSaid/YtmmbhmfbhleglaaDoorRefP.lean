/- The document's decoder: the next message of chunks. -/
import Derived.Test.YtmmbhmfbhleglaaDoorRefO
namespace Go.Proofs.YtmmbhmfbhleglaaDoor
open Go Go.RowKit
structure PInv (c : Nat) (r : List UInt8 × Nat × List UInt8 × List UInt8) (w wr : World) (b m : ByteArray) : Prop where
  blk : Blk wr c 29 [.bool true, .string b, .string m, .bool (!m.toList.isEmpty), .bool false]
  eq : gatherS b.toList m.toList = r
  sm : m.size ≤ 16384
  sb : b.size ≤ 1000000
  kp : Kp (fun g => g = c) w wr
theorem endAt_at {b : ByteArray} {k : Nat} (h1 : 1 ≤ k) (hk : k < b.size) (hc : b[k] = 10) (hn : ∀ j, 1 ≤ j → j < k → b.toList[j]? ≠ some 10) : endAt b.toList = k :=
  endAt_hit h1 (by rw [str_get b k hk, hc]) hn
theorem endAt_off {b : ByteArray} {k : Nat} (h1 : 1 ≤ k) (hk : b.size ≤ k) (hn : ∀ j, 1 ≤ j → j < k → b.toList[j]? ≠ some 10) : b.size ≤ endAt b.toList := by
  have := endAt_miss (l := b.toList) (fun j hj h => by
    have hl := (List.getElem?_eq_some_iff.1 h).1
    rw [size_toList] at hl
    exact hn j hj (by omega) h)
  rwa [size_toList] at this
theorem step_form0 {W M : List UInt8} (h : 9 < (W.take (endAt W)).length ∨ (W.take (endAt W)).take 2 ≠ ([10, 35] : List UInt8).take (W.take (endAt W)).length) : stepS W M = .form := by
  unfold stepS
  exact if_pos h
theorem gather_err {r : List UInt8 × Nat × List UInt8 × List UInt8} {W M : List UInt8} {e : Nat} {W' M' : List UInt8} (HR : rawS ⟨W, M, true, false⟩ = r) (h : r = ([], e, W', M')) (he : e = 2 ∨ e = 3) : nextS ⟨W, M, true, false⟩ = ([], e, ⟨[], [], false, true⟩) := raw_err2 (HR.trans h) he
theorem PInv.drewN {c : Nat} {r : List UInt8 × Nat × List UInt8 × List UInt8} {w wr : World} {b m : ByteArray} (h : PInv c r w wr b m) (n : Nat) : PInv c r w (wr.drewN n) b m := ⟨h.blk, h.eq, h.sm, h.sb, h.kp.drewN n⟩
theorem PInv.drew {c : Nat} {r : List UInt8 × Nat × List UInt8 × List UInt8} {w wr : World} {b m : ByteArray} (h : PInv c r w wr b m) : PInv c r w wr.drew b m := ⟨h.blk, h.eq, h.sm, h.sb, h.kp.drew⟩
theorem get_of {s : ByteArray} {l : List UInt8} {i : Nat} {a : UInt8} (h : s.toList = l) (ha : l[i]? = some a) : ∀ (hp : i < s.size), s[i]'hp = a := by
  intro hp
  have := str_get s i hp
  rw [h, ha] at this
  exact (Option.some.inj this).symm
theorem u8_ne {a d : UInt8} (h : a ≠ d) : ((a.toNat : Int) == (d.toNat : Int)) = false := by
  rw [beq_eq_false_iff_ne]
  intro e
  exact h (UInt8.toNat_inj.1 (by omega))
theorem step_size {W M hd : List UInt8} (h : HeadIs W hd) (hd0 : hd ≠ [10, 35, 35]) : stepS W M = match sizeS (hd.drop 2) with
    | none => .form
    | some n => if 16384 < M.length + n then .long else if W.length < hd.length + 1 + n then .wait else .more (W.drop (hd.length + 1 + n)) (M ++ (W.drop (hd.length + 1)).take n) := by
  unfold stepS
  have hn : ¬ (9 < hd.length ∨ hd.take 2 ≠ ([10, 35] : List UInt8).take hd.length) := by
    rintro (h3 | h3)
    · have := h.le; omega
    · exact h3 h.beg
  rw [← h.eq, if_neg hn, if_neg (by have := h.lt; omega), if_neg hd0, ← h.len]
  rfl
theorem dec_bad {l : List UInt8} {j v : Nat} {x : UInt8} (h1 : Lib.decFrom 0 (l.take j) = some v) (hx : l[j]? = some x) (hn : ¬ (48 ≤ x.toNat ∧ x.toNat ≤ 57)) : sizeS l = none := by
  have hnone : Lib.decFrom 0 l = none := by
    cases hd : Lib.decFrom 0 l with
    | none => rfl
    | some n =>
      obtain ⟨d, hd2⟩ := Lib.digit_of_decFrom l 0 n hd j x hx
      have := Lib.digitVal_eq hd2
      exact absurd ⟨this.1, this.2.1⟩ hn
  cases l with
  | nil => rfl
  | cons c r =>
    rw [sizeS_cons]
    split
    · rfl
    · unfold Lib.decNat
      rw [hnone]
      simp
theorem dec_step {l : List UInt8} {j v : Nat} {x : UInt8} (h1 : Lib.decFrom 0 (l.take j) = some v) (hx : l[j]? = some x) (hn : 48 ≤ x.toNat ∧ x.toNat ≤ 57) : Lib.decFrom 0 (l.take (j + 1)) = some (v * 10 + (x.toNat - 48)) := by
  refine Lib.decFrom_take l j 0 v x (x.toNat - 48) h1 hx ?_
  unfold Lib.digitVal
  rw [if_pos hn]
theorem dec_small {l : List UInt8} {v : Nat} (h : Lib.decFrom 0 l = some v) (hl : l.length ≤ 7) : v ≤ 9999999 := by
  have h5 := Lib.decFrom_lt _ _ _ h
  have h6 : 10 ^ l.length ≤ 10 ^ 7 := Nat.pow_le_pow_right (by decide) hl
  simp only [Nat.zero_add, Nat.one_mul] at h5
  omega
theorem size_dec48 {c : UInt8} {r : List UInt8} (hc : c = 48) : sizeS (c :: r) = none := by rw [sizeS_cons, if_pos hc]
theorem size_decOk {c : UInt8} {r : List UInt8} {v : Nat} (h : Lib.decFrom 0 (c :: r) = some v) (hc : c ≠ 48) : sizeS (c :: r) = some v := by
  rw [sizeS_cons, if_neg hc]
  unfold Lib.decNat
  rw [h]
  simp
theorem step_wait0 {W M : List UInt8} (h : W.length ≤ endAt W) (h9 : W.length ≤ 9) (hb : W.take 2 = ([10, 35] : List UInt8).take W.length) : stepS W M = .wait := by
  have e : W.take (endAt W) = W := List.take_of_length_le h
  unfold stepS
  rw [e, if_neg, if_pos (by omega)]
  rintro (h1 | h1)
  · omega
  · exact h1 hb
set_option maxRecDepth 20000 in
set_option maxHeartbeats 4000000 in
theorem refGather_any (c : Nat) (b m : ByteArray) (W M : List UInt8) (w : World) (h : Blk w c 29 [.bool true, .string b, .string m, .bool (!M.isEmpty), .bool false]) (hb : b.toList = W) (hm : m.toList = M) (hl : W.length ≤ 1000000) (hM : M.length ≤ 16384) :
    Calls Tryd.prog 10 #[.pointer (some ⟨c, 0, none⟩)] w (RNPost c (nextS ⟨W, M, true, false⟩) w) := by
  have c0 := h.cellV 0 rfl
  have c4 := h.cellV 4 rfl
  obtain ⟨r, hr⟩ : ∃ r, r = gatherS W M := ⟨_, rfl⟩
  have HR : Hid (rawS ⟨W, M, true, false⟩ = r) := Lib.hid (by rw [hr]; rfl)
  have H0 : Hid (PInv c r w w b m) := Lib.hid ⟨by rw [hm]; exact h, by rw [hb, hm, hr], by rw [← size_toList, hm]; exact hM, by rw [← size_toList, hb]; exact hl, Kp.refl _ _⟩
  clear h hb hm hl hM hr
  go_enter Tryd.func10, Tryd.ntmps10
  go_wp2
  clear c0 c4
  go_loopg [6, 7, 8, 9, 10, 11] b.size (fun gg x6 x7 x8 x9 x10 x11 wr => ∃ (b m : ByteArray), PInv c r w wr b m ∧ b.size = gg)
  case atStart => exact ⟨b, m, H0.out, rfl⟩
  case round =>
    clear H0
    obtain ⟨b, m, hi, rfl⟩ := hrel
    have HI := Lib.hid hi
    have c1 := hi.blk.cellV 1 rfl
    have c2 := hi.blk.cellV 2 rfl
    have c3 := hi.blk.cellV 3 rfl
    have f1 := blk_frozen hi.blk 1
    have f2 := blk_frozen hi.blk 2
    have f3 := blk_frozen hi.blk 3
    have hbi : (b.size : Int) ≤ 1000000 := by have := hi.sb; omega
    have hmi : (m.size : Int) ≤ 16384 := by have := hi.sm; omega
    clear hi
    obtain ⟨wo, rfl⟩ : ∃ wo : World, wo = wr := ⟨_, rfl⟩
    go_wp2
    go_loopg [6] b.size (fun gg e wx => ∃ k : Nat, e = .int .i64 k ∧ gg = b.size + 1 - k ∧ 1 ≤ k ∧ (k = 1 ∨ k ≤ b.size) ∧ Hid (∀ j, 1 ≤ j → j < k → b.toList[j]? ≠ some 10) ∧ wx = wo)
    case atStart => exact ⟨1, rfl, rfl, Nat.le_refl _, .inl rfl, Lib.hid (fun j h1 h2 => by omega), rfl⟩
    case round =>
      obtain ⟨k, rfl, rfl, hk1, hk2, HN, rfl⟩ := hrel
      have hk1i : (1 : Int) ≤ k := by omega
      by_cases hlt : k < b.size
      · have hlti : (k : Int) < b.size := by omega
        by_cases hc : b[k] = 10
        · have hb : ((b[k].toNat : Int) == 10) = true := by rw [hc]; rfl
          have hb2 : ((b[k].toNat : Int) != 10) = false := by rw [hc]; rfl
          have HE := Lib.hid (endAt_at hk1 hlt hc HN.out)
          clear hc HN hk2
          have hmin : min (k : Int) (b.size : Int) = (k : Int) := by omega
          go_upto_region 16 with (fail)
          go_quiet (fail)
          rename_i nq
          have HI2 := Lib.hid (HI.out.drewN nq)
          generalize (World.drewN _ nq) = wx at HI2 ⊢
          have HHD : Hid ((b.extract 0 k).toList = b.toList.take (endAt b.toList)) := Lib.hid (by rw [HE.out, extract_toList, List.drop_zero, Nat.sub_zero])
          have HHS : Hid ((b.extract 0 k).size = k) := Lib.hid (by rw [ByteArray.size_extract]; omega)
          generalize b.extract 0 k = hd at HHD HHS ⊢
          have d1 := HI2.out.blk.cellV 1 rfl
          have d2 := HI2.out.blk.cellV 2 rfl
          have d3 := HI2.out.blk.cellV 3 rfl
          have g1 := blk_frozen HI2.out.blk 1
          have g2 := blk_frozen HI2.out.blk 2
          have g3 := blk_frozen HI2.out.blk 3
          clear c1 c2 c3 f1 f2 f3 HI hb hb2 hmin
          have HHL : Hid ((b.toList.take (endAt b.toList)).length = hd.size) := Lib.hid (by rw [← HHD.out, size_toList])
          have hs1 : (1 : Int) ≤ hd.size := by rw [HHS.out]; omega
          have hs1n : 0 < hd.size := by omega
          by_cases h9 : 9 < hd.size
          · have h9i : (9 : Int) < hd.size := by omega
            have HS : Hid (stepS b.toList m.toList = .form) := Lib.hid (step_form0 (.inl (by rw [HHL.out]; exact h9)))
            clear h9
            have HE3 : Hid (r = ([], 3, b.toList, m.toList)) := Lib.hid (by rw [← HI2.out.eq]; exact gatherS_form HS.out)
            go_wp2_with (go_at_call 14; refine (dies_any c true _ false b m 3 _ HI2.out.blk).mono ?_; rintro e w2 ⟨rfl, hd2, hk2⟩; have HD2 := Lib.hid hd2; have HK2 := Lib.hid hk2; clear hd2 hk2)
            all_goals go_ret2
            all_goals rw [gather_err HR.out HE3.out (.inr rfl)]
            all_goals exact ⟨{ data := #[] }, rfl, lit_toList _, rf_over HD2.out rfl, HI2.out.kp.tr HK2.out⟩
          · have h9i : ¬ (9 : Int) < hd.size := by omega
            cases hl : hd.toList with
            | nil => exfalso; have := size_toList hd; rw [hl] at this; simp at this; omega
            | cons a t =>
              have hg0 := get_of hl (i := 0) rfl
              by_cases ha : a = 10
              · subst ha
                have HH9 : Hid (hd.size ≤ 9) := Lib.hid (by omega)
                have HKB : Hid (k < b.size) := Lib.hid hlt
                have hz0 := size_toList hd
                rw [hl] at hz0
                cases t with
                | nil =>
                  have hs2 : ¬ (1 : Int) < hd.size := by simp at hz0; omega
                  have HBEG : Hid (hd.toList.take 2 = ([10, 35] : List UInt8).take hd.toList.length) := Lib.hid (by rw [hl]; rfl)
                  have HNL : Hid (hd.toList ≠ [10, 35, 35]) := Lib.hid (by rw [hl]; decide)
                  have hbn : (hd.toList == ([10, 35, 35] : List UInt8)) = false := by rw [hl]; rfl
                  clear hl h9 hz0
                  have HHI : Hid (HeadIs b.toList hd.toList) := Lib.hid ⟨HHD.out, by rw [size_toList, HHS.out, HE.out], by rw [size_toList]; have := HH9.out; omega, by rw [HE.out, size_toList]; exact HKB.out, HBEG.out⟩
                  have hki : (hd.size : Int) = (k : Int) := by rw [HHS.out]
                  have HKI := Lib.hid hki
                  clear hki
                  go_wp2
                  go_loopg [10, 11] hd.size (fun gg n i wz => ∃ (j v : Nat), n = .int .i64 v ∧ i = .int .i64 j ∧ gg = hd.size - (j - 2) ∧ 2 ≤ j ∧ (j = 2 ∨ j ≤ hd.size) ∧ Hid (Lib.decFrom 0 ((hd.toList.drop 2).take (j - 2)) = some v) ∧ wz = wx)
                  case atStart => exact ⟨2, 0, rfl, rfl, by omega, Nat.le_refl _, .inl rfl, Lib.hid rfl, rfl⟩
                  case round =>
                    obtain ⟨j, v, rfl, rfl, rfl, hj2, hjs, HDC, rfl⟩ := hrel
                    have hv7 : v ≤ 9999999 := dec_small HDC.out (by rw [List.length_take, List.length_drop, size_toList]; have := HH9.out; omega)
                    have hv7i : (v : Int) ≤ 9999999 := by omega
                    have hj2i : (2 : Int) ≤ j := by omega
                    by_cases hjl : j < hd.size
                    · have hjli : (j : Int) < hd.size := by omega
                      have hat : (hd.toList.drop 2)[j - 2]? = some hd[j] := by
                        rw [List.getElem?_drop, show 2 + (j - 2) = j by omega]
                        exact str_get hd j hjl
                      have hji9 : (j : Int) ≤ 9 := by have := HH9.out; omega
                      by_cases hdg : 48 ≤ hd[j].toNat ∧ hd[j].toNat ≤ 57
                      · have h48 : ¬ (hd[j].toNat : Int) < 48 := by omega
                        have h57 : ¬ (57 : Int) < hd[j].toNat := by omega
                        have h48b : (48 : Int) ≤ hd[j].toNat := by omega
                        have h57b : (hd[j].toNat : Int) ≤ 57 := by omega
                        have HD3 := Lib.hid (dec_step HDC.out hat hdg)
                        have hv6 : v ≤ 999999 := by
                          have h5 := Lib.decFrom_lt _ _ _ HDC.out
                          have h6 : 10 ^ ((hd.toList.drop 2).take (j - 2)).length ≤ 10 ^ 6 := Nat.pow_le_pow_right (by decide) (by rw [List.length_take, List.length_drop, size_toList]; have := HH9.out; omega)
                          simp only [Nat.zero_add, Nat.one_mul] at h5
                          omega
                        have hv6i : (v : Int) ≤ 999999 := by omega
                        obtain ⟨v2, hv2⟩ : ∃ v2, v2 = v * 10 + (hd[j].toNat - 48) := ⟨_, rfl⟩
                        have hv2i : (v : Int) * 10 + ((hd[j].toNat : Int) - 48) = (v2 : Int) := by omega
                        rw [← hv2] at HD3
                        clear hv2 hdg hat hv7 hv7i hv6
                        go_wp2
                        go_roundg (hd.size - (j + 1 - 2))
                        case measure => omega
                        case rel => exact ⟨j + 1, v2, rfl, by go_num, rfl, by omega, by omega, by rw [show j + 1 - 2 = j - 2 + 1 by omega]; exact HD3, rfl⟩
                      · have HS : Hid (stepS b.toList m.toList = .form) := Lib.hid (by rw [step_size HHI.out HNL.out, dec_bad HDC.out hat hdg])
                        by_cases h48 : (hd[j].toNat : Int) < 48
                        · clear hdg hat hv7 hv7i
                          have HE3 : Hid (r = ([], 3, b.toList, m.toList)) := Lib.hid (by rw [← HI2.out.eq]; exact gatherS_form HS.out)
                          go_wp2_with (go_at_call 14; refine (dies_any c true _ false b m 3 _ HI2.out.blk).mono ?_; rintro e w2 ⟨rfl, hd2, hk2⟩; have HD2 := Lib.hid hd2; have HK2 := Lib.hid hk2; clear hd2 hk2)
                          all_goals go_ret2
                          all_goals rw [gather_err HR.out HE3.out (.inr rfl)]
                          all_goals exact ⟨{ data := #[] }, rfl, lit_toList _, rf_over HD2.out rfl, HI2.out.kp.tr HK2.out⟩
                        · have h57 : (57 : Int) < hd[j].toNat := by omega
                          clear hdg hat hv7 hv7i
                          have HE3 : Hid (r = ([], 3, b.toList, m.toList)) := Lib.hid (by rw [← HI2.out.eq]; exact gatherS_form HS.out)
                          go_wp2_with (go_at_call 14; refine (dies_any c true _ false b m 3 _ HI2.out.blk).mono ?_; rintro e w2 ⟨rfl, hd2, hk2⟩; have HD2 := Lib.hid hd2; have HK2 := Lib.hid hk2; clear hd2 hk2)
                          all_goals go_ret2
                          all_goals rw [gather_err HR.out HE3.out (.inr rfl)]
                          all_goals exact ⟨{ data := #[] }, rfl, lit_toList _, rf_over HD2.out rfl, HI2.out.kp.tr HK2.out⟩
                    · have hjli : ¬ (j : Int) < hd.size := by omega
                      have HDA : Hid (Lib.decFrom 0 (hd.toList.drop 2) = some v) := Lib.hid (by
                        have := HDC.out
                        rwa [List.take_of_length_le (by rw [List.length_drop, size_toList]; omega)] at this)
                      clear hjs
                      by_cases h3 : hd.size < 3
                      · have h3i : (hd.size : Int) < 3 := by omega
                        have HS : Hid (stepS b.toList m.toList = .form) := Lib.hid (by
                          rw [step_size HHI.out HNL.out, show hd.toList.drop 2 = [] from List.drop_eq_nil_of_le (by rw [size_toList]; omega)]
                          rfl)
                        clear h3 hv7 hv7i
                        have HE3 : Hid (r = ([], 3, b.toList, m.toList)) := Lib.hid (by rw [← HI2.out.eq]; exact gatherS_form HS.out)
                        go_wp2_with (go_at_call 14; refine (dies_any c true _ false b m 3 _ HI2.out.blk).mono ?_; rintro e w2 ⟨rfl, hd2, hk2⟩; have HD2 := Lib.hid hd2; have HK2 := Lib.hid hk2; clear hd2 hk2)
                        all_goals go_ret2
                        all_goals rw [gather_err HR.out HE3.out (.inr rfl)]
                        all_goals exact ⟨{ data := #[] }, rfl, lit_toList _, rf_over HD2.out rfl, HI2.out.kp.tr HK2.out⟩
                      · exfalso; omega
                | cons a2 t2 =>
                  have hg1 := get_of hl (i := 1) rfl
                  have hs2 : (1 : Int) < hd.size := by simp at hz0; omega
                  have hs2n : 1 < hd.size := by omega
                  by_cases ha2 : a2 = 35
                  · subst ha2
                    by_cases ht2 : t2 = [35]
                    · subst ht2
                      have hbn : (hd.toList == ([10, 35, 35] : List UInt8)) = true := by rw [hl]; rfl
                      have HLE := Lib.hid hl
                      have hz3 : hd.size = 3 := by rw [← size_toList, hl]; rfl
                      have HHI : Hid (HeadIs b.toList hd.toList) := Lib.hid ⟨HHD.out, by rw [size_toList, HHS.out, HE.out], by rw [size_toList]; omega, by rw [HE.out, size_toList]; exact HKB.out, by rw [hl]; rfl⟩
                      have hkb : (k : Int) < b.size := by have := HKB.out; omega
                      by_cases hm0 : m.toList = []
                      · have hme : (!m.toList.isEmpty) = false := by rw [hm0]; rfl
                        have HS : Hid (stepS b.toList m.toList = .form) := Lib.hid (by rw [hm0]; exact step_none HHI.out hl)
                        clear hm0 hl hz0 hz3 h9
                        rw [hme] at d3
                        have HE3 : Hid (r = ([], 3, b.toList, m.toList)) := Lib.hid (by rw [← HI2.out.eq]; exact gatherS_form HS.out)
                        go_wp2_with (go_at_call 14; refine (dies_any c true _ false b m 3 _ HI2.out.blk).mono ?_; rintro e w2 ⟨rfl, hd2, hk2⟩; have HD2 := Lib.hid hd2; have HK2 := Lib.hid hk2; clear hd2 hk2)
                        all_goals go_ret2
                        all_goals rw [gather_err HR.out HE3.out (.inr rfl)]
                        all_goals exact ⟨{ data := #[] }, rfl, lit_toList _, rf_over HD2.out rfl, HI2.out.kp.tr HK2.out⟩
                      · have hme : (!m.toList.isEmpty) = true := by
                          cases hmm : m.toList with
                          | nil => exact absurd hmm hm0
                          | cons => rfl
                        have HS : Hid (stepS b.toList m.toList = .done (b.toList.drop (k + 1))) := Lib.hid (by
                          have := step_done (M := m.toList) HHI.out hl hm0
                          rwa [size_toList, HHS.out] at this)
                        have HD0 : Hid (r = (m.toList, 0, b.toList.drop (k + 1), [])) := Lib.hid (by rw [← HI2.out.eq]; exact gatherS_done HS.out)
                        have HL : Hid ((b.extract (k + 1) b.size).toList = b.toList.drop (k + 1)) := Lib.hid (by
                          rw [extract_toList]
                          exact List.take_of_length_le (by rw [List.length_drop, size_toList]; omega))
                        obtain ⟨k1, hk1e⟩ : ∃ k1, k1 = k + 1 := ⟨_, rfl⟩
                        have hk1f : (k : Int) + 1 = (k1 : Int) := by omega
                        have hk1b : (k1 : Int) ≤ b.size := by omega
                        rw [← hk1e] at HL HD0
                        clear hm0 hl hz0 hz3 h9 hk1e
                        rw [hme] at d3
                        go_wp2
                        all_goals go_ret2
                        all_goals rw [raw_ok2 (HR.out.trans HD0.out) (.inl rfl)]
                        all_goals exact ⟨m, rfl, rfl, rf_live (((HI2.out.blk.set' 1 (.string (b.extract k1 b.size))).set' 2 (.string { data := #[] })).set' 3 (.bool false)) HL.out (lit_toList _), ((HI2.out.kp.setCell (p := ⟨c, 1, none⟩) (fun _ => rfl) _).setCell (p := ⟨c, 2, none⟩) (fun _ => rfl) _).setCell (p := ⟨c, 3, none⟩) (fun _ => rfl) _⟩
                    · have hbn : (hd.toList == ([10, 35, 35] : List UInt8)) = false := by rw [beq_eq_false_iff_ne, hl]; intro e; simp at e; exact ht2 e
                      have HBEG : Hid (hd.toList.take 2 = ([10, 35] : List UInt8).take hd.toList.length) := Lib.hid (by rw [hl]; simp)
                      have HNL : Hid (hd.toList ≠ [10, 35, 35]) := Lib.hid (by rw [hl]; intro e; simp at e; exact ht2 e)
                      clear hl h9 hz0 ht2
                      have HHI : Hid (HeadIs b.toList hd.toList) := Lib.hid ⟨HHD.out, by rw [size_toList, HHS.out, HE.out], by rw [size_toList]; have := HH9.out; omega, by rw [HE.out, size_toList]; exact HKB.out, HBEG.out⟩
                      have hki : (hd.size : Int) = (k : Int) := by rw [HHS.out]
                      have HKI := Lib.hid hki
                      clear hki
                      go_wp2
                      go_loopg [10, 11] hd.size (fun gg n i wz => ∃ (j v : Nat), n = .int .i64 v ∧ i = .int .i64 j ∧ gg = hd.size - (j - 2) ∧ 2 ≤ j ∧ (j = 2 ∨ j ≤ hd.size) ∧ Hid (Lib.decFrom 0 ((hd.toList.drop 2).take (j - 2)) = some v) ∧ wz = wx)
                      case atStart => exact ⟨2, 0, rfl, rfl, by omega, Nat.le_refl _, .inl rfl, Lib.hid rfl, rfl⟩
                      case round =>
                        obtain ⟨j, v, rfl, rfl, rfl, hj2, hjs, HDC, rfl⟩ := hrel
                        have hv7 : v ≤ 9999999 := dec_small HDC.out (by rw [List.length_take, List.length_drop, size_toList]; have := HH9.out; omega)
                        have hv7i : (v : Int) ≤ 9999999 := by omega
                        have hj2i : (2 : Int) ≤ j := by omega
                        by_cases hjl : j < hd.size
                        · have hjli : (j : Int) < hd.size := by omega
                          have hat : (hd.toList.drop 2)[j - 2]? = some hd[j] := by
                            rw [List.getElem?_drop, show 2 + (j - 2) = j by omega]
                            exact str_get hd j hjl
                          have hji9 : (j : Int) ≤ 9 := by have := HH9.out; omega
                          by_cases hdg : 48 ≤ hd[j].toNat ∧ hd[j].toNat ≤ 57
                          · have h48 : ¬ (hd[j].toNat : Int) < 48 := by omega
                            have h57 : ¬ (57 : Int) < hd[j].toNat := by omega
                            have h48b : (48 : Int) ≤ hd[j].toNat := by omega
                            have h57b : (hd[j].toNat : Int) ≤ 57 := by omega
                            have HD3 := Lib.hid (dec_step HDC.out hat hdg)
                            have hv6 : v ≤ 999999 := by
                              have h5 := Lib.decFrom_lt _ _ _ HDC.out
                              have h6 : 10 ^ ((hd.toList.drop 2).take (j - 2)).length ≤ 10 ^ 6 := Nat.pow_le_pow_right (by decide) (by rw [List.length_take, List.length_drop, size_toList]; have := HH9.out; omega)
                              simp only [Nat.zero_add, Nat.one_mul] at h5
                              omega
                            have hv6i : (v : Int) ≤ 999999 := by omega
                            obtain ⟨v2, hv2⟩ : ∃ v2, v2 = v * 10 + (hd[j].toNat - 48) := ⟨_, rfl⟩
                            have hv2i : (v : Int) * 10 + ((hd[j].toNat : Int) - 48) = (v2 : Int) := by omega
                            rw [← hv2] at HD3
                            clear hv2 hdg hat hv7 hv7i hv6
                            go_wp2
                            go_roundg (hd.size - (j + 1 - 2))
                            case measure => omega
                            case rel => exact ⟨j + 1, v2, rfl, by go_num, rfl, by omega, by omega, by rw [show j + 1 - 2 = j - 2 + 1 by omega]; exact HD3, rfl⟩
                          · have HS : Hid (stepS b.toList m.toList = .form) := Lib.hid (by rw [step_size HHI.out HNL.out, dec_bad HDC.out hat hdg])
                            by_cases h48 : (hd[j].toNat : Int) < 48
                            · clear hdg hat hv7 hv7i
                              have HE3 : Hid (r = ([], 3, b.toList, m.toList)) := Lib.hid (by rw [← HI2.out.eq]; exact gatherS_form HS.out)
                              go_wp2_with (go_at_call 14; refine (dies_any c true _ false b m 3 _ HI2.out.blk).mono ?_; rintro e w2 ⟨rfl, hd2, hk2⟩; have HD2 := Lib.hid hd2; have HK2 := Lib.hid hk2; clear hd2 hk2)
                              all_goals go_ret2
                              all_goals rw [gather_err HR.out HE3.out (.inr rfl)]
                              all_goals exact ⟨{ data := #[] }, rfl, lit_toList _, rf_over HD2.out rfl, HI2.out.kp.tr HK2.out⟩
                            · have h57 : (57 : Int) < hd[j].toNat := by omega
                              clear hdg hat hv7 hv7i
                              have HE3 : Hid (r = ([], 3, b.toList, m.toList)) := Lib.hid (by rw [← HI2.out.eq]; exact gatherS_form HS.out)
                              go_wp2_with (go_at_call 14; refine (dies_any c true _ false b m 3 _ HI2.out.blk).mono ?_; rintro e w2 ⟨rfl, hd2, hk2⟩; have HD2 := Lib.hid hd2; have HK2 := Lib.hid hk2; clear hd2 hk2)
                              all_goals go_ret2
                              all_goals rw [gather_err HR.out HE3.out (.inr rfl)]
                              all_goals exact ⟨{ data := #[] }, rfl, lit_toList _, rf_over HD2.out rfl, HI2.out.kp.tr HK2.out⟩
                        · have hjli : ¬ (j : Int) < hd.size := by omega
                          have HDA : Hid (Lib.decFrom 0 (hd.toList.drop 2) = some v) := Lib.hid (by
                            have := HDC.out
                            rwa [List.take_of_length_le (by rw [List.length_drop, size_toList]; omega)] at this)
                          clear hjs
                          by_cases h3 : hd.size < 3
                          · have h3i : (hd.size : Int) < 3 := by omega
                            have HS : Hid (stepS b.toList m.toList = .form) := Lib.hid (by
                              rw [step_size HHI.out HNL.out, show hd.toList.drop 2 = [] from List.drop_eq_nil_of_le (by rw [size_toList]; omega)]
                              rfl)
                            clear h3 hv7 hv7i
                            have HE3 : Hid (r = ([], 3, b.toList, m.toList)) := Lib.hid (by rw [← HI2.out.eq]; exact gatherS_form HS.out)
                            go_wp2_with (go_at_call 14; refine (dies_any c true _ false b m 3 _ HI2.out.blk).mono ?_; rintro e w2 ⟨rfl, hd2, hk2⟩; have HD2 := Lib.hid hd2; have HK2 := Lib.hid hk2; clear hd2 hk2)
                            all_goals go_ret2
                            all_goals rw [gather_err HR.out HE3.out (.inr rfl)]
                            all_goals exact ⟨{ data := #[] }, rfl, lit_toList _, rf_over HD2.out rfl, HI2.out.kp.tr HK2.out⟩
                          · have h3i : ¬ (hd.size : Int) < 3 := by omega
                            have h2n : 2 < hd.size := by omega
                            have h2i : (2 : Int) < hd.size := by omega
                            have HDE : Hid (hd.toList.drop 2 = hd[2] :: hd.toList.drop 3) := Lib.hid (by
                              rw [List.drop_eq_getElem_cons (by rw [size_toList]; omega)]
                              congr 1
                              have := str_get hd 2 h2n
                              rw [List.getElem?_eq_getElem (by rw [size_toList]; omega)] at this
                              exact Option.some.inj this)
                            clear h3
                            by_cases h8 : hd[2] = 48
                            · have hb8 : ((hd[2].toNat : Int) == 48) = true := by rw [h8]; rfl
                              have HS : Hid (stepS b.toList m.toList = .form) := Lib.hid (by
                                rw [step_size HHI.out HNL.out, HDE.out, size_dec48 h8])
                              clear h8 hv7 hv7i
                              have HE3 : Hid (r = ([], 3, b.toList, m.toList)) := Lib.hid (by rw [← HI2.out.eq]; exact gatherS_form HS.out)
                              go_wp2_with (go_at_call 14; refine (dies_any c true _ false b m 3 _ HI2.out.blk).mono ?_; rintro e w2 ⟨rfl, hd2, hk2⟩; have HD2 := Lib.hid hd2; have HK2 := Lib.hid hk2; clear hd2 hk2)
                              all_goals go_ret2
                              all_goals rw [gather_err HR.out HE3.out (.inr rfl)]
                              all_goals exact ⟨{ data := #[] }, rfl, lit_toList _, rf_over HD2.out rfl, HI2.out.kp.tr HK2.out⟩
                            · have hb8 : ((hd[2].toNat : Int) == 48) = false := u8_ne (d := 48) h8
                              have HSZ : Hid (sizeS (hd.toList.drop 2) = some v) := Lib.hid (by
                                have := HDA.out
                                rw [HDE.out] at this ⊢
                                exact size_decOk this h8)
                              have HST : Hid (stepS b.toList m.toList = if 16384 < m.toList.length + v then .long else if b.toList.length < hd.toList.length + 1 + v then .wait else .more (b.toList.drop (hd.toList.length + 1 + v)) (m.toList ++ (b.toList.drop (hd.toList.length + 1)).take v)) := Lib.hid (by
                                have h := step_size (M := m.toList) HHI.out HNL.out
                                rw [HSZ.out] at h
                                exact h)
                              clear h8
                              by_cases hml : 16384 < m.size + v
                              · have hmli : decide ((16384 : Int) < (m.size : Int) + v) = true := decide_eq_true (by omega)
                                have HS : Hid (stepS b.toList m.toList = .long) := Lib.hid (by rw [HST.out, size_toList, if_pos hml])
                                have HE2 : Hid (r = ([], 2, b.toList, m.toList)) := Lib.hid (by rw [← HI2.out.eq]; exact gatherS_long HS.out)
                                clear hml hv7
                                go_wp2_with (go_at_call 14; refine (dies_any c true _ false b m 2 _ HI2.out.blk).mono ?_; rintro e w2 ⟨rfl, hd2, hk2⟩; have HD2 := Lib.hid hd2; have HK2 := Lib.hid hk2; clear hd2 hk2)
                                all_goals go_ret2
                                all_goals rw [gather_err HR.out HE2.out (.inl rfl)]
                                all_goals exact ⟨{ data := #[] }, rfl, lit_toList _, rf_over HD2.out rfl, HI2.out.kp.tr HK2.out⟩
                              · have hmli : decide ((16384 : Int) < (m.size : Int) + v) = false := decide_eq_false (by omega)
                                have HML : Hid (m.size + v ≤ 16384) := Lib.hid (by omega)
                                have hv16 : (v : Int) ≤ 16384 := by omega
                                clear hv7 hv7i
                                have hkb : (k : Int) < b.size := by have := HKB.out; omega
                                by_cases hw : b.size < k + 1 + v
                                · have hwi : decide ((b.size : Int) - k - 1 < v) = true := decide_eq_true (by omega)
                                  have HS : Hid (stepS b.toList m.toList = .wait) := Lib.hid (by rw [HST.out, size_toList, size_toList, size_toList, HHS.out, if_neg hml, if_pos hw])
                                  have HE4 : Hid (r = ([], 4, b.toList, m.toList)) := Lib.hid (by rw [← HI2.out.eq]; exact gatherS_wait HS.out)
                                  clear hml hw
                                  go_wp2
                                  all_goals go_ret2
                                  all_goals rw [raw_ok2 (HR.out.trans HE4.out) (.inr rfl)]
                                  all_goals exact ⟨{ data := #[] }, rfl, lit_toList _, rf_live HI2.out.blk rfl rfl, HI2.out.kp⟩
                                · have hwi : decide ((b.size : Int) - k - 1 < v) = false := decide_eq_false (by omega)
                                  have HW : Hid (k + 1 + v ≤ b.size) := Lib.hid (by omega)
                                  have hv0 := (sizeS_some HSZ.out).2.1
                                  have HV0 := Lib.hid hv0
                                  have HS : Hid (stepS b.toList m.toList = .more (b.toList.drop (k + 1 + v)) (m.toList ++ (b.toList.drop (k + 1)).take v)) := Lib.hid (by
                                    rw [HST.out, size_toList, size_toList, size_toList, HHS.out, if_neg hml, if_neg hw])
                                  clear hml hw hv0
                                  obtain ⟨k1, hk1e⟩ : ∃ k1, k1 = k + 1 := ⟨_, rfl⟩
                                  have hk1f : (k : Int) + 1 = (k1 : Int) := by omega
                                  obtain ⟨k2, hk2e⟩ : ∃ k2, k2 = k1 + v := ⟨_, rfl⟩
                                  have hk2f : (k1 : Int) + (v : Int) = (k2 : Int) := by omega
                                  have HK12 : Hid (k1 = k + 1 ∧ k2 = k1 + v) := Lib.hid ⟨hk1e, hk2e⟩
                                  have hk2b : (k2 : Int) ≤ b.size := by have := HW.out; omega
                                  have hk1b : (k1 : Int) ≤ b.size := by have := HKB.out; omega
                                  have hk12 : (k1 : Int) ≤ k2 := by omega
                                  have hwk1 : IntKind.i64.wrap (k1 : Int) = (k1 : Int) := by rw [IntKind.wrap_i64]; omega
                                  have hwk2 : IntKind.i64.wrap (k2 : Int) = (k2 : Int) := by rw [IntKind.wrap_i64]; omega
                                  clear hk1e hk2e
                                  go_wp2
                                  have HI3 := Lib.hid HI2.out.drew
                                  have hc1 := HI3.out.blk.cellV 1 rfl
                                  have hc2 := HI3.out.blk.cellV 2 rfl
                                  have hf2 := blk_frozen HI3.out.blk 2
                                  clear d1 d2 d3 g1 g2 g3
                                  refine wp_region_px 18 [18] (fun w' : World => w' = wr.drew) (.quiet 0 (.quiet 1 (.quiet 2 (.quiet 3 (.quiet 4 (.quiet 5 (.quiet 6 (.quiet 7 (.quiet 8 (.quiet 9 (.quiet 10 (.quiet 11 (.quiet 12 (.quiet 13 (.quiet 14 (.quiet 15 (.quiet 16 (.quiet 17 (.wall 18 .done))))))))))))))))))) (by kernel_rfl) (by kernel_rfl) (by kernel_rfl) (by kernel_rfl) (fun _ d _ _ _ h => by cases d <;> exact h) rfl ?_
                                  generalize wr.drew = wd at HI3 hc1 hc2 hf2 ⊢
                                  iterate 14 (refine px_quiet (v := ?_) rfl (by rfl) (fun wq hwq => ?_) rfl ?_; rotate_left 1; (focus (rw [hwq]; clear hwq wq; go_simp; try (with_reducible rfl); done)); try simp only [List.setIfInBounds_toArray, List.set_cons_zero, List.set_cons_succ])
                                  refine px_quiet (v := .string (b.extract k1 k2)) rfl (by rfl) (fun wq hwq => ?_) rfl ?_
                                  · rw [hwq]
                                    clear hwq wq
                                    go_simp
                                  have HSL : Hid (m.size + (b.extract k1 k2).size ≤ 1016384 ∧ (b.extract k1 k2).toList = (b.toList.drop (k + 1)).take v) := Lib.hid ⟨by rw [ByteArray.size_extract]; have := HML.out; have := HK12.out; have := hmi; omega, by rw [extract_toList, HK12.out.2, HK12.out.1, Nat.add_sub_cancel_left]⟩
                                  try simp only [List.setIfInBounds_toArray, List.set_cons_zero, List.set_cons_succ]
                                  generalize b.extract k1 k2 = sl at HSL ⊢
                                  have hsl : ¬ (1016384 : Int) < (m.size : Int) + sl.size := by have := HSL.out.1; omega
                                  refine px_quiet (v := .string (m ++ sl)) rfl (by rfl) (fun wq hwq => ?_) rfl ?_
                                  · rw [hwq]
                                    clear hwq wq
                                    go_simp
                                    omega
                                  try simp only [List.setIfInBounds_toArray, List.set_cons_zero, List.set_cons_succ]
                                  have HNM : Hid ((m ++ sl).toList = m.toList ++ (b.toList.drop (k + 1)).take v ∧ (m ++ sl).size ≤ 16384) := Lib.hid (by
                                    have h1 := HSL.out.2
                                    have e : (m ++ sl).toList = m.toList ++ sl.toList := by rw [ByteArray.toList_eq, ByteArray.toList_eq, ByteArray.toList_eq, ByteArray.data_append, Array.toList_append]
                                    refine ⟨by rw [e, h1], ?_⟩
                                    rw [← size_toList, e, h1, List.length_append, List.length_take, size_toList]
                                    have := HML.out
                                    omega)
                                  generalize m ++ sl = mn at HNM ⊢
                                  iterate 2 (refine px_quiet (v := ?_) rfl (by rfl) (fun wq hwq => ?_) rfl ?_; rotate_left 1; (focus (rw [hwq]; clear hwq wq; go_simp; try (with_reducible rfl); done)); try simp only [List.setIfInBounds_toArray, List.set_cons_zero, List.set_cons_succ])
                                  refine px_wall rfl (by rfl) (fun K hK => ?_)
                                  go_simp
                                  refine hK (fun _ => True) _ _ trivial ?_
                                  clear hK K hc2 hf2 hc1
                                  refine px_done ?_
                                  have HI4 := Lib.hid (HI3.out.blk.set' 2 (.string mn))
                                  have HK4 := Lib.hid (HI3.out.kp.setCell (p := ⟨c, 2, none⟩) (fun _ => rfl) (.string mn))
                                  generalize wd.setCell ⟨c, 2, none⟩ (.string mn) = we at HI4 HK4 ⊢
                                  have e1 := HI4.out.cellV 1 rfl
                                  have e3 := HI4.out.cellV 3 rfl
                                  have q1 := blk_frozen HI4.out 1
                                  have q3 := blk_frozen HI4.out 3
                                  go_wp2
                                  have HNB : Hid ((b.extract k2 b.size).toList = b.toList.drop (k + 1 + v) ∧ (b.extract k2 b.size).size + k + 1 ≤ b.size) := Lib.hid (by
                                    refine ⟨?_, by rw [ByteArray.size_extract]; have := HW.out; have := HK12.out; omega⟩
                                    rw [extract_toList, HK12.out.2, HK12.out.1]
                                    exact List.take_of_length_le (by rw [List.length_drop, size_toList]; exact Nat.le_refl _))
                                  generalize b.extract k2 b.size = nb at HNB ⊢
                                  go_roundg nb.size
                                  case measure => have := HNB.out.2; omega
                                  case rel =>
                                    refine ⟨nb, mn, ⟨?_, ?_, HNM.out.2, ?_, (HK4.out.setCell (p := ⟨c, 3, none⟩) (fun _ => rfl) (.bool true)).setCell (p := ⟨c, 1, none⟩) (fun _ => rfl) (.string nb)⟩, rfl⟩
                                    · have := (HI4.out.set' 3 (.bool true)).set' 1 (.string nb)
                                      have e : (!mn.toList.isEmpty) = true := by
                                        cases hmm : mn.toList with
                                        | nil =>
                                          exfalso
                                          have h1 := HNM.out.1
                                          rw [hmm] at h1
                                          have h2 := congrArg List.length h1
                                          rw [List.length_append, List.length_take, List.length_drop, size_toList, size_toList] at h2
                                          have := HV0.out
                                          have := HW.out
                                          simp only [List.length_nil] at h2
                                          omega
                                        | cons => rfl
                                      rw [e]
                                      exact this
                                    · rw [HNB.out.1, HNM.out.1, ← gatherS_more HS.out]
                                      exact HI3.out.eq
                                    · have := HNB.out.2; have := HI3.out.sb; omega
                  · have hb3 : ((a2.toNat : Int) == 35) = false := u8_ne (d := 35) ha2
                    have hb4 : ((a2.toNat : Int) != 35) = true := by rw [bne, hb3]; rfl
                    have HS : Hid (stepS b.toList m.toList = .form) := Lib.hid (step_form0 (.inr (by
                      rw [HHL.out, ← HHD.out, hl]
                      intro e
                      have hz : hd.size = t2.length + 1 + 1 := by rw [← size_toList, hl]; rfl
                      rw [hz] at e
                      simp at e
                      exact ha2 e)))
                    clear ha2 hl h9 hz0
                    have HE3 : Hid (r = ([], 3, b.toList, m.toList)) := Lib.hid (by rw [← HI2.out.eq]; exact gatherS_form HS.out)
                    go_wp2_with (go_at_call 14; refine (dies_any c true _ false b m 3 _ HI2.out.blk).mono ?_; rintro e w2 ⟨rfl, hd2, hk2⟩; have HD2 := Lib.hid hd2; have HK2 := Lib.hid hk2; clear hd2 hk2)
                    all_goals go_ret2
                    all_goals rw [gather_err HR.out HE3.out (.inr rfl)]
                    all_goals exact ⟨{ data := #[] }, rfl, lit_toList _, rf_over HD2.out rfl, HI2.out.kp.tr HK2.out⟩
              · have hb : ((a.toNat : Int) == 10) = false := u8_ne (d := 10) ha
                have hb2 : ((a.toNat : Int) != 10) = true := by rw [bne, hb]; rfl
                have HS : Hid (stepS b.toList m.toList = .form) := Lib.hid (step_form0 (.inr (by
                  rw [HHL.out, ← HHD.out, hl]
                  intro e
                  have hz : hd.size = t.length + 1 := by rw [← size_toList, hl]; rfl
                  rw [hz] at e
                  simp at e
                  exact ha e.1)))
                clear ha hl h9
                have HE3 : Hid (r = ([], 3, b.toList, m.toList)) := Lib.hid (by rw [← HI2.out.eq]; exact gatherS_form HS.out)
                go_wp2_with (go_at_call 14; refine (dies_any c true _ false b m 3 _ HI2.out.blk).mono ?_; rintro e w2 ⟨rfl, hd2, hk2⟩; have HD2 := Lib.hid hd2; have HK2 := Lib.hid hk2; clear hd2 hk2)
                all_goals go_ret2
                all_goals rw [gather_err HR.out HE3.out (.inr rfl)]
                all_goals exact ⟨{ data := #[] }, rfl, lit_toList _, rf_over HD2.out rfl, HI2.out.kp.tr HK2.out⟩
        · have hb : ((b[k].toNat : Int) == 10) = false := by
            rw [beq_eq_false_iff_ne]; intro e; exact hc (UInt8.toNat_inj.1 (by show _ = 10; omega))
          have hb2 : ((b[k].toNat : Int) != 10) = true := by
            rw [bne_iff_ne]; intro e; exact hc (UInt8.toNat_inj.1 (by show _ = 10; omega))
          have HN2 : Hid (∀ j, 1 ≤ j → j < k + 1 → b.toList[j]? ≠ some 10) := Lib.hid (fun j h1 h2 => by
            by_cases e : j = k
            · subst e
              rw [str_get b j hlt]
              intro h
              exact hc (Option.some.inj h)
            · exact HN.out j h1 (by omega))
          clear hc HN hk2
          go_wp2
          go_roundg (b.size + 1 - (k + 1))
          case measure => omega
          case rel => exact ⟨k + 1, by go_num, rfl, by omega, by omega, HN2, rfl⟩
      · have hlti : ¬ (k : Int) < b.size := by omega
        have hmin : min (k : Int) (b.size : Int) = (b.size : Int) := by omega
        have HLE := Lib.hid (endAt_off hk1 (by omega) HN.out)
        clear HN hk2
        go_upto_region 16 with (fail)
        go_quiet (fail)
        rename_i nq
        have HI2 := Lib.hid (HI.out.drewN nq)
        generalize (World.drewN _ nq) = wx at HI2 ⊢
        have HTK : Hid (b.toList.take (endAt b.toList) = b.toList) := Lib.hid (List.take_of_length_le (by rw [size_toList]; exact HLE.out))
        clear c1 c2 c3 f1 f2 f3 HI hmin
        by_cases h9 : 9 < b.size
        · have h9i : (9 : Int) < b.size := by omega
          have HS : Hid (stepS b.toList m.toList = .form) := Lib.hid (step_form0 (.inl (by rw [HTK.out, size_toList]; exact h9)))
          clear h9
          have HE3 : Hid (r = ([], 3, b.toList, m.toList)) := Lib.hid (by rw [← HI2.out.eq]; exact gatherS_form HS.out)
          go_wp2_with (go_at_call 14; refine (dies_any c true _ false b m 3 _ HI2.out.blk).mono ?_; rintro e w2 ⟨rfl, hd2, hk2⟩; have HD2 := Lib.hid hd2; have HK2 := Lib.hid hk2; clear hd2 hk2)
          all_goals go_ret2
          all_goals rw [gather_err HR.out HE3.out (.inr rfl)]
          all_goals exact ⟨{ data := #[] }, rfl, lit_toList _, rf_over HD2.out rfl, HI2.out.kp.tr HK2.out⟩
        · have h9i : ¬ (9 : Int) < b.size := by omega
          cases hl : b.toList with
          | nil =>
            have hz0 := size_toList b
            rw [hl] at hz0
            have hs1 : ¬ (0 : Int) < b.size := by simp at hz0; omega
            have hs2 : ¬ (1 : Int) < b.size := by omega
            have hz1 : (b.size : Int) = 0 := by omega
            have HS : Hid (stepS b.toList m.toList = .wait) := Lib.hid (step_wait0 (by rw [size_toList]; exact HLE.out) (by rw [size_toList]; omega) (by rw [hl]; rfl))
            clear h9 hl hz0 hs1 hs2
            have HE4 : Hid (r = ([], 4, b.toList, m.toList)) := Lib.hid (by rw [← HI2.out.eq]; exact gatherS_wait HS.out)
            go_wp2
            all_goals go_ret2
            all_goals rw [raw_ok2 (HR.out.trans HE4.out) (.inr rfl)]
            all_goals exact ⟨{ data := #[] }, rfl, lit_toList _, rf_live HI2.out.blk rfl rfl, HI2.out.kp⟩
          | cons a t =>
            have hz0 := size_toList b
            rw [hl] at hz0
            have hs1 : (0 : Int) < b.size := by simp at hz0; omega
            have hs1n : 0 < b.size := by omega
            have hg0 := get_of hl (i := 0) rfl
            by_cases ha : a = 10
            · subst ha
              cases t with
              | nil =>
                have hs2 : ¬ (1 : Int) < b.size := by simp at hz0; omega
                have HS : Hid (stepS b.toList m.toList = .wait) := Lib.hid (step_wait0 (by rw [size_toList]; exact HLE.out) (by rw [size_toList]; omega) (by rw [hl]; rfl))
                clear h9 hl hz0
                have HE4 : Hid (r = ([], 4, b.toList, m.toList)) := Lib.hid (by rw [← HI2.out.eq]; exact gatherS_wait HS.out)
                go_wp2
                all_goals go_ret2
                all_goals rw [raw_ok2 (HR.out.trans HE4.out) (.inr rfl)]
                all_goals exact ⟨{ data := #[] }, rfl, lit_toList _, rf_live HI2.out.blk rfl rfl, HI2.out.kp⟩
              | cons a2 t2 =>
                have hg1 := get_of hl (i := 1) rfl
                have hs2 : (1 : Int) < b.size := by simp at hz0; omega
                have hs2n : 1 < b.size := by omega
                by_cases ha2 : a2 = 35
                · subst ha2
                  have HS : Hid (stepS b.toList m.toList = .wait) := Lib.hid (step_wait0 (by rw [size_toList]; exact HLE.out) (by rw [size_toList]; omega) (by rw [hl]; simp))
                  clear h9 hl hz0
                  have HE4 : Hid (r = ([], 4, b.toList, m.toList)) := Lib.hid (by rw [← HI2.out.eq]; exact gatherS_wait HS.out)
                  go_wp2
                  all_goals go_ret2
                  all_goals rw [raw_ok2 (HR.out.trans HE4.out) (.inr rfl)]
                  all_goals exact ⟨{ data := #[] }, rfl, lit_toList _, rf_live HI2.out.blk rfl rfl, HI2.out.kp⟩
                · have hb3 : ((a2.toNat : Int) == 35) = false := u8_ne (d := 35) ha2
                  have hb4 : ((a2.toNat : Int) != 35) = true := by rw [bne, hb3]; rfl
                  have HS : Hid (stepS b.toList m.toList = .form) := Lib.hid (step_form0 (.inr (by
                    rw [HTK.out, hl]
                    intro e
                    simp at e
                    exact ha2 e)))
                  clear ha2 hl h9 hz0
                  have HE3 : Hid (r = ([], 3, b.toList, m.toList)) := Lib.hid (by rw [← HI2.out.eq]; exact gatherS_form HS.out)
                  go_wp2_with (go_at_call 14; refine (dies_any c true _ false b m 3 _ HI2.out.blk).mono ?_; rintro e w2 ⟨rfl, hd2, hk2⟩; have HD2 := Lib.hid hd2; have HK2 := Lib.hid hk2; clear hd2 hk2)
                  all_goals go_ret2
                  all_goals rw [gather_err HR.out HE3.out (.inr rfl)]
                  all_goals exact ⟨{ data := #[] }, rfl, lit_toList _, rf_over HD2.out rfl, HI2.out.kp.tr HK2.out⟩
            · have hb : ((a.toNat : Int) == 10) = false := u8_ne (d := 10) ha
              have hb2 : ((a.toNat : Int) != 10) = true := by rw [bne, hb]; rfl
              have HS : Hid (stepS b.toList m.toList = .form) := Lib.hid (step_form0 (.inr (by
                rw [HTK.out, hl]
                intro e
                simp at e
                exact ha e.1)))
              clear ha hl h9 hz0
              have HE3 : Hid (r = ([], 3, b.toList, m.toList)) := Lib.hid (by rw [← HI2.out.eq]; exact gatherS_form HS.out)
              go_wp2_with (go_at_call 14; refine (dies_any c true _ false b m 3 _ HI2.out.blk).mono ?_; rintro e w2 ⟨rfl, hd2, hk2⟩; have HD2 := Lib.hid hd2; have HK2 := Lib.hid hk2; clear hd2 hk2)
              all_goals go_ret2
              all_goals rw [gather_err HR.out HE3.out (.inr rfl)]
              all_goals exact ⟨{ data := #[] }, rfl, lit_toList _, rf_over HD2.out rfl, HI2.out.kp.tr HK2.out⟩
end Go.Proofs.YtmmbhmfbhleglaaDoor
