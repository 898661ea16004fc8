/- The reference's Bytes. -/
import Derived.Test.YtomlednobmaaeaaDoorRfI
namespace Go.Proofs.YtomlednobmaaeaaDoor
open Go Go.RowKit
/-- The first n bytes of a stream. -/
def strm (ks : List (BitVec 32)) (c : List UInt8) (n : Nat) : List UInt8 := (List.range n).map (kb ks c)
theorem strm_len (ks : List (BitVec 32)) (c : List UInt8) (n : Nat) : (strm ks c n).length = n := by simp [strm]
theorem strm_block {ks : List (BitVec 32)} (hk : ks.length = 44) (c : List UInt8) (m : Nat) : strm ks c (16 * (m + 1)) = strm ks c (16 * m) ++ aesK ks (incN c m) := by
  have hl := aesK_len hk (incN c m)
  apply List.ext_getElem?
  intro i
  by_cases h : i < 16 * m
  · rw [List.getElem?_append_left (by rw [strm_len]; exact h)]
    simp only [strm, List.getElem?_map]
    rw [List.getElem?_range (by omega), List.getElem?_range h]
  · rw [List.getElem?_append_right (by rw [strm_len]; omega), strm_len]
    by_cases h2 : i < 16 * (m + 1)
    · simp only [strm, List.getElem?_map]
      rw [List.getElem?_range h2]
      have e1 : i / 16 = m := by omega
      have e2 : i % 16 = i - 16 * m := by omega
      simp only [Option.map_some, kb, e1, e2]
      exact (getD_some (by rw [hl]; omega) 0).symm
    · rw [List.getElem?_eq_none (by rw [strm_len]; omega), List.getElem?_eq_none (by rw [hl]; omega)]
theorem strm_take (ks : List (BitVec 32)) (c : List UInt8) {n m : Nat} (h : n ≤ m) : (strm ks c m).take n = strm ks c n := by
  simp only [strm, ← List.map_take, List.take_range, Nat.min_eq_left h]
theorem blk_rd {w : World} {g : Nat} {T : TypeId} {l : List UInt8} {n : Nat} (h : Blk w g T (bys l)) (hn : l.length = n) (hm : n ≤ 9223372036854775807) : Rd w (.slice (some ⟨g, 0, none⟩) n n) (bys l) := by
  subst hn
  refine ⟨some ⟨g, 0, none⟩, l.length, by rw [bys_len], by rw [bys_len]; exact Nat.le_refl _, by unfold maxLen; omega, by simp, fun ad e i u hu => ?_⟩
  cases e
  rw [Addr.add_lit, Nat.zero_add]
  exact h.cellV i hu
theorem Bks.one {w wx : World} {g : Nat} {T : TypeId} {cs : List Value} (h : Blk wx g T cs) (hg : w.heap.size ≤ g) (hk : Kp0 w wx) : Bks w wx [(g, T, cs)] := by
  have hget : ∀ (k : Nat) (x : Nat × TypeId × List Value), [(g, T, cs)][k]? = some x → k = 0 ∧ x = (g, T, cs) := by
    intro k x hk
    cases k with
    | zero => simp at hk; exact ⟨rfl, hk.symm⟩
    | succ k => simp at hk
  refine ⟨fun j g' T' cs' hj => ?_, fun i j x y hi hj hne => ?_, fun j x hj => ?_, hk⟩
  · have := (hget j _ hj).2
    simp only [Prod.mk.injEq] at this
    obtain ⟨rfl, rfl, rfl⟩ := this
    exact h
  · have h1 := (hget i _ hi).1
    have h2 := (hget j _ hj).1
    omega
  · rw [(hget j _ hj).2]
    exact hg
theorem rd_less {w : World} {so : Option Addr} {k sc n : Nat} {l : List UInt8} (h : Rd w (.slice so k sc) (bys l)) (hn : n ≤ l.length) : Rd w (.slice so n sc) (bys (l.take n)) := by
  obtain ⟨ao, cap, e, g1, g2, g3, g4⟩ := h
  simp only [Value.slice.injEq] at e
  obtain ⟨rfl, rfl, rfl⟩ := e
  have hl : (bys (l.take n)).length = n := by rw [bys_len, List.length_take]; omega
  rw [bys_len] at g1
  refine ⟨so, sc, by rw [hl], by rw [hl]; omega, g2, g3, fun ad e i u hu => g4 ad e i u ?_⟩
  have hi : i < n := by have := (List.getElem?_eq_some_iff.1 hu).1; omega
  rw [← hu]
  simp only [bys, List.getElem?_map]
  rw [List.getElem?_take, if_pos hi]
theorem own_ne {w : World} {B g : Nat} {v : Value} {xs cs : List Value} (h : Own B 5 w v xs) (hb : Blk w g 23 cs) : ∀ b, v.ownBlock = some b → b ≠ g := by
  intro b hv e
  subst e
  rcases h.2 with ⟨rfl, _⟩ | ⟨g, cap, cur, rfl, _, hh, _⟩
  · cases hv
  · obtain rfl : g = b := by simpa [Value.ownBlock] using hv
    rw [show w.heap[g]? = _ from hb] at hh
    simp at hh
attribute [local irreducible] aesK kyW colsW kb strm incB
set_option maxRecDepth 20000 in
set_option maxHeartbeats 4000000 in
theorem rbytes_any (vk vc : Value) (key cnt : List UInt8) (n : Nat) (w : World) (hk : Rd w vk (bys key)) (hc : Rd w vc (bys cnt)) (hkl : key.length = 16) (hcl : cnt.length = 16) (hn : n ≤ 100000) :
    Calls Tryd.prog 14 #[vk, vc, .int .i64 (n : Int)] w fun e w' => ∃ v, e = .returned v ∧ Rd w' v (bys (strm (kyW (colsW key)) cnt n)) ∧ (∀ g, v.ownBlock = some g → w.heap.size ≤ g ∧ g < w'.heap.size) ∧ Kp0 w w' := by
  obtain ⟨ak, ck, rfl, _, _, _⟩ := hk.shapeB
  obtain ⟨bc, oc, cc, rfl, _, _, _⟩ := hc.posB (by omega)
  have Hk := Lib.hid hk
  have Hc := Lib.hid hc.range
  have HKL := Lib.hid hkl
  have HCL := Lib.hid hcl
  have HKY : Hid ((kyW (colsW key)).length = 44) := Lib.hid (kyW_len (colsW_len hkl))
  rw [hcl]
  have ha2 : ∀ wq : World, (Instr.arrayAt 23 (.slice (some ⟨bc, oc, none⟩) 16 cc)).run Tryd.prog wq = .ok (.pointer (some ⟨bc, oc, none⟩)) wq := fun wq => run_arrayAt _ 23 _ 16 _ 16 cc Tryd.underlying23 (Nat.le_refl _)
  have HN := Lib.hid hn
  clear hk hc hcl hn hkl
  go_enter Tryd.func14, Tryd.ntmps14
  go_upto_region 2 with (first
    | (refine wpList_load_mid rfl 23 (.tmp 12) rfl bc oc rfl (bys cnt) _ Hc.out Tryd.underlying23 rfl (info16 HCL.out) ?_)
    | (refine wl_alloc_as asB rfl rfl ?_
       intro w3 g7 hw hg
       have HB1 : Hid (Bks w w3 [(g7, 23, bys z16)]) := Lib.hid (by rw [hw]; exact (Bks.nil w).push 23 (bys z16) hg)
       clear hw hg)
    | (refine wl_store_blk rfl 23 (.tmp 7) (.tmp 13) rfl g7 _ (bys z16) (bys cnt) rfl rfl (HB1.out.at 0 rfl) (info16 HCL.out) (len_of (T := 23) (info16 (l := z16) rfl) (info16 HCL.out)) (bys_onesV _) ?_
       intro w4 hA hK
       have HB2 := Lib.hid (HB1.out.store 0 rfl hA hK)
       clear hA hK))
  obtain ⟨Y, hY⟩ : ∃ Y, Y = kyW (colsW key) := ⟨_, rfl⟩
  have HYE := Lib.hid hY
  rw [← hY] at HKY
  clear hY
  have HG7 : Hid (w.heap.size ≤ g7) := Lib.hid (HB2.out.ge 0 _ rfl)
  have HSTR : Hid (∀ n, strm (kyW (colsW key)) cnt n = strm Y cnt n) := Lib.hid (fun n => by rw [HYE.out])
  simp only [Act.put]
  go_wp2
  go_loopg [8] n (fun g s wr => ∃ (m : Nat), (m = 0 ∨ 16 * (m - 1) < n) ∧ g = n - 16 * m ∧ Own w.heap.size 5 wr s (bys (strm Y cnt (16 * m))) ∧ Bks w wr [(g7, 23, bys (incN cnt m))])
  case atStart => exact ⟨0, .inl rfl, rfl, by rw [show strm Y cnt (16 * 0) = [] from List.eq_nil_of_length_eq_zero (strm_len _ _ _)]; exact Own.nil _ _ _, HB2.out⟩
  case round =>
    obtain ⟨m, hm, rfl, hO, hB⟩ := hrel
    have HO := Lib.hid hO
    have HNE := Lib.hid (own_ne hO (hB.at 0 rfl))
    have HBB := Lib.hid hB
    clear hO hB HB1 HB2
    obtain ⟨so, sc, hs, hsc, _, _⟩ := HO.out.rd.shapeB
    rw [strm_len] at hs hsc
    subst hs
    by_cases h : 16 * m < n
    · have hmn : 16 * (m : Int) < (n : Int) := by omega
      have HIL : Hid ((incN cnt m).length = 16) := Lib.hid (incN_len HCL.out m)
      have HAL : Hid ((aesK Y (incN cnt m)).length = 16) := Lib.hid (aesK_len HKY.out _)
      go_upto_region 5 with (first
        | (refine wl_load_blk rfl 23 (.tmp 7) rfl g7 _ (bys (incN cnt m)) rfl (HBB.out.at 0 rfl) _ Tryd.underlying23 rfl (info16 HIL.out) ?_)
        | (go_at_call 12; refine (rblk_any _ key (incN cnt m) _ (Hk.out.keep0 HBB.out.kp) HKL.out HIL.out).mono ?_; rintro e w5 ⟨rfl, hk⟩; rw [← HYE.out]; have HK5 := Lib.hid hk; clear hk)
        | (refine wl_alloc_as asB rfl rfl ?_
           intro w6 g9 hw hg
           have HA6 : Hid (Blk w6 g9 23 (bys z16)) := Lib.hid (by rw [hw, hg]; exact blk0 _ _ _)
           have HK6 : Hid (Kp0 wr w6) := Lib.hid (by rw [hw]; exact HK5.out.alloc _)
           have HG9 : Hid (wr.heap.size ≤ g9) := Lib.hid (by rw [hg]; exact HK5.out.size)
           clear hw hg)
        | (refine wl_store_blk rfl 23 (.tmp 9) (.tmp 20) rfl g9 _ (bys z16) (bys (aesK Y (incN cnt m))) rfl rfl HA6.out (info16 HAL.out) (len_of (T := 23) (info16 (l := z16) rfl) (info16 HAL.out)) (bys_onesV _) ?_
           intro w7 hA hK
           have HA7 := Lib.hid hA
           have HK7 : Hid (Kp0 wr w7) := Lib.hid (HK6.out.trans hK (fun _ _ h => h) (fun i hi e => by have := HG9.out; omega))
           clear hA hK))
      simp only [Act.put]
      have HO7 := Lib.hid (HO.out.keep0 HK7.out)
      have HL7 := Lib.hid (strm_len Y cnt (16 * m))
      have HNM : Hid (16 * m ≤ 100000) := Lib.hid (by have := HN.out; omega)
      go_upto_region 6 with (refine wl_append_own rfl (.tmp 21) (.tmp 22) 22 rfl Tryd.underlying22 infoB' rfl rfl rfl HO7.out (blk_rd HA7.out HAL.out (by omega)) (bys_onesV _) (by rw [bys_len, bys_len, HL7.out, HAL.out]; have := HNM.out; unfold maxLen; omega) (by rw [bys_len, bys_len, HL7.out, HAL.out]; have := HNM.out; omega) (Nat.le_trans HBB.out.kp.size HK7.out.size) ?_
                             intro v8 w8 hO8 hg8
                             have HO8 : Hid (Own w.heap.size 5 w8 v8 (bys (strm Y cnt (16 * (m + 1))))) := Lib.hid (by rw [strm_block HKY.out, bys_app]; exact hO8)
                             have HG8 := Lib.hid hg8
                             clear hO8 hg8)
      have HK8 : Hid (Kp (fun k => (Value.slice so (16 * m) sc).ownBlock = some k) w7 w8) := Lib.hid ((Kp.refl _ _).grown HG8.out (fun k hk _ => hk))
      have HB8 : Hid (Bks w w8 [(g7, 23, bys (incN cnt m))]) := Lib.hid (Bks.one (((HBB.out.kp0 HK7.out).at 0 rfl).keep HK8.out (fun e => HNE.out g7 e rfl)) HG7.out ((HBB.out.kp0 HK7.out).kp.trans HK8.out (fun _ _ h => h) (fun i hi e => by have := (HO7.out.lt i e).1; omega)))
      have HMN := Lib.hid h
      clear HBB HO HO7 HA6 HA7 HK5 HK6 HK7 HK8 HG8 HG9 HNE h hm
      obtain ⟨R, hR⟩ : ∃ R, R = incN cnt (m + 1) := ⟨_, rfl⟩
      have HI0 : Hid ((incN cnt m).length = 16 ∧ incAt (incN cnt m) 16 = R) := Lib.hid ⟨HIL.out, by rw [hR, incN, incB]⟩
      have HRE := Lib.hid hR
      clear hR
      go_wp2
      go_loopg [10] 16 (fun g i wr2 => ∃ (k : Nat) (cur : List UInt8), i = .int .i64 ((k : Int) - 1) ∧ k ≤ 16 ∧ g = k ∧ (cur.length = 16 ∧ incAt cur k = R) ∧ Own w.heap.size 5 wr2 v8 (bys (strm Y cnt (16 * (m + 1)))) ∧ Bks w wr2 [(g7, 23, bys cur)])
      case atStart => exact ⟨16, _, rfl, by omega, rfl, HI0.out, HO8.out, HB8.out⟩
      case round =>
        obtain ⟨k, cur, rfl, hk, rfl, hcur, hO, hB⟩ := hrel
        have HO9 := Lib.hid hO
        have HB9 := Lib.hid hB
        have HCU := Lib.hid hcur
        clear hO hB hcur HI0 HO8 HB8
        cases gk with
        | succ q =>
          obtain ⟨x, y, h1, h2, h3, h4⟩ := inc_step HCU.out.1 hk HCU.out.2
          have hq : (((q + 1 : Nat) : Int) - 1) = (q : Int) := by omega
          rw [hq]
          have hq16 : (q : Int) < 16 := by omega
          have hc1 := (HB9.out.at 0 rfl).cellV q (bys_getV h1)
          have hf1 := blk_frozen (HB9.out.at 0 rfl) q
          have HQ := Lib.hid hk
          have HNE := Lib.hid (own_ne HO9.out (HB9.out.at 0 rfl))
          clear h1 hq hk
          have HKS : Hid (∀ v, Own w.heap.size 5 (wr.setCell ⟨g7, q, none⟩ v) v8 (bys (strm Y cnt (16 * (m + 1))))) := Lib.hid (fun v => HO9.out.keep ((Kp.refl (fun b => b = g7) _).setCell (p := ⟨g7, q, none⟩) (fun _ => rfl) v) (fun b hb _ _ e => HNE.out b hb e))
          by_cases hy : y = 0
          · have H3 := Lib.hid (h3 hy)
            clear h3 h4
            subst hy
            rw [show (((0 : UInt8).toNat : Nat) : Int) = 0 from rfl] at h2
            go_wp2
            go_roundg q
            case measure => omega
            case rel =>
              have HQo := HQ.out
              refine ⟨q, cur.set q 0, rfl, by omega, rfl, ⟨by rw [List.length_set]; exact HCU.out.1, H3.out⟩, HKS.out _, ?_⟩
              have hs := HB9.out.set 0 rfl q (.int .u8 (((0 : UInt8).toNat : Nat) : Int))
              rw [bys_setV] at hs
              exact hs
          · have H4 := Lib.hid (h4 hy)
            have hne := u8_ne hy
            clear h3 h4 hy
            go_wp2
            have hmn := HMN.out
            go_roundg (n - 16 * (m + 1))
            case measure => omega
            case rel =>
              refine ⟨m + 1, .inr (by omega), rfl, HKS.out _, ?_⟩
              have hs := HB9.out.set 0 rfl q (.int .u8 (y.toNat : Int))
              rw [bys_setV, H4.out, HRE.out] at hs
              exact hs
        | zero =>
          have HB10 : Hid (Bks w wr [(g7, 23, bys (incN cnt (m + 1)))]) := Lib.hid (by rw [← HRE.out, ← HCU.out.2]; exact HB9.out)
          clear HB9 HCU
          go_wp2
          have hmn := HMN.out
          go_roundg (n - 16 * (m + 1))
          case measure => omega
          case rel => exact ⟨m + 1, .inr (by omega), rfl, HO9.out, HB10.out⟩
    · have hmn : (n : Int) ≤ 16 * (m : Int) := by omega
      have hmn2 : n ≤ 16 * m := by omega
      have hnsc : n ≤ sc := by omega
      have hnsc2 : (n : Int) ≤ (sc : Int) := by omega
      clear h hm hsc
      go_wp2
      go_ret
      refine ⟨.slice so n sc, rfl, ?_, fun g hg => HO.out.lt g (by cases so with | none => cases hg | some a => exact hg), HBB.out.kp⟩
      rw [HSTR.out, ← strm_take Y cnt hmn2]
      exact rd_less HO.out.rd (by rw [strm_len]; exact hmn2)
end Go.Proofs.YtomlednobmaaeaaDoor
