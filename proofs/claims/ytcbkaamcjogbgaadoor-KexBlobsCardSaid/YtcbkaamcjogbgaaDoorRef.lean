/- What the calls of the document's answers for layer 1 do (the writers). -/
import Derived.Test.YtcbkaamcjogbgaaDoorK7
namespace Go.Proofs.YtcbkaamcjogbgaaDoor
open Go Go.RowKit

set_option maxHeartbeats 400000 in
theorem ru32_any (m : Nat) (w : World) (hm : m < 4294967296) :
    Calls Tryd.prog 81 #[.int .i64 (m : Int)] w fun e w' => ∃ v', e = .returned v' ∧ Own w.heap.size 5 w' v' (bys (be4 m)) ∧ Kp0 w w' := by
  go_enter Tryd.func81, Tryd.ntmps81
  go_wp2
  go_ret
  exact ⟨_, rfl, by rw [← bys_be4 m hm]; exact Own.lit w _ _ 4 rfl (by decide), (Kp.refl _ w).alloc _⟩

set_option maxHeartbeats 400000 in
theorem rtext_any (s : ByteArray) (w : World) (hl : s.size ≤ 800000000) :
    Calls Tryd.prog 55 #[.string s] w fun e w' => ∃ v', e = .returned v' ∧ Own w.heap.size 5 w' v' (bys (encText s.toList)) ∧ Kp0 w w' := by
  go_enter Tryd.func55, Tryd.ntmps55
  go_wp2_with fail
  refine (ru32_any s.size _ (by omega)).mono ?_
  rintro e w' ⟨v', rfl, ho, hk⟩
  have HO := Lib.hid ho
  have HK := Lib.hid hk
  have hsz := hk.size
  clear ho hk
  go_wp2_with (at_builtin; refine wl_append_str rfl _ _ 24 9 rfl Tryd.underlying24 Tryd.underlying9 infoU8 s rfl rfl HO.out (by rw [bys_len]; simp [be4]; omega) hsz ?_)
  intro v2 w2 ho2 hg
  have hlt := HO.out.lt
  go_wp2
  go_ret
  refine ⟨v2, rfl, ?_, HK.out.grown hg (fun k hk1 hk2 => by have := hlt k hk1; omega)⟩
  rw [← bys_app] at ho2
  simpa [encText, size_toList] using ho2

theorem rint_step (l : List UInt8) (k : Nat) (h : k < l.length) (hz : (l[k]'h).toNat = 0) : stripZ (l.drop (k + 1)) = stripZ (l.drop k) := by
  rw [List.drop_eq_getElem_cons h]
  have : l[k] = 0 := UInt8.toNat_inj.1 (by simpa using hz)
  conv => rhs; unfold stripZ
  exact (if_pos this).symm
theorem rint_end (l : List UInt8) (k : Nat) (hc : ¬ ∃ h : k < l.length, (l[k]'h).toNat = 0) : stripZ (l.drop k) = l.drop k := by
  by_cases h : k < l.length
  · rw [List.drop_eq_getElem_cons h]
    conv => lhs; unfold stripZ
    exact if_neg (fun e => hc ⟨h, by rw [e]; rfl⟩)
  · rw [List.drop_of_length_le (by omega)]; rfl
set_option maxHeartbeats 1000000 in
set_option maxRecDepth 20000 in
theorem rint_any (p : Value) (ys : List UInt8) (w : World) (hp : Rd w p (bys ys)) (hl : ys.length ≤ 700000000) :
    Calls Tryd.prog 65 #[p] w fun e w' => ∃ v', e = .returned v' ∧ Own w.heap.size 5 w' v' (bys (encInt ys)) ∧ Kp0 w w' := by
  have HP := Lib.hid hp
  obtain ⟨bo, cap2, rfl, h4, h5, h6⟩ := hp.shapeB
  clear hp
  go_enter Tryd.func65, Tryd.ntmps65
  go_wp2
  go_loop [3] (fun t => ∃ k : Nat, t = .int .i64 k ∧ k ≤ ys.length ∧ Hid (stripZ (ys.drop k) = stripZ ys)) (fun t => ys.length - (intOf t).toNat)
  case atStart => exact ⟨0, rfl, Nat.zero_le _, Lib.hid rfl⟩
  case round =>
    obtain ⟨k, rfl, hk, HS⟩ := hrel
    by_cases hc : ∃ h : k < ys.length, (ys[k]'h).toNat = 0
    · have hc2 := hc
      obtain ⟨h, hz⟩ := hc2
      have HSt := Lib.hid (rint_step ys k h hz)
      obtain ⟨b, o, c, e, _, _, hcell⟩ := HP.out.posB (by omega)
      simp only [Value.slice.injEq] at e
      obtain ⟨rfl, _, rfl⟩ := e
      have hck := hcell k h
      have hzb : (((ys[k]'h).toNat : Int) == 0) = true := by rw [hz]; rfl
      clear hcell hc hz
      go_wp2
      go_round
      case rel => exact ⟨k + 1, by go_num, by omega, Lib.hid (by rw [HSt.out, HS.out])⟩
      case measure => simp [intOf]; omega
    · have HE := Lib.hid (rint_end ys k hc)
      have hfin : Hid (ys.drop k = stripZ ys) := Lib.hid (by rw [← HS.out, HE.out])
      by_cases h : k < ys.length
      · obtain ⟨b, o, c, e, _, _, hcell⟩ := HP.out.posB (by omega)
        simp only [Value.slice.injEq] at e
        obtain ⟨rfl, _, rfl⟩ := e
        have HA := Lib.hid (HP.out.afterB k h)
        have hck := hcell k h
        have hzb : (((ys[k]'h).toNat : Int) == 0) = false := by
          rw [beq_eq_false_iff_ne]; exact fun e => hc ⟨h, by omega⟩
        clear hcell hc
        go_wp2_with (refine wl_str_of (o := ⟨some 21, _, _, _, _, _⟩) rfl _ 24 9 5 rfl Tryd.underlying24 Tryd.underlying5 Tryd.underlying9 rfl HA.out ?_)
        intro s hs
        have HSL : Hid (s.toList = stripZ ys) := Lib.hid (by rw [hs, hfin.out])
        have hsz : s.size ≤ 700000000 := by rw [← size_toList, hs, List.length_drop]; omega
        clear hs
        have HB : Hid (encInt ys = encText (signed s.toList)) := Lib.hid (by rw [HSL.out]; rfl)
        by_cases h0 : 0 < s.size
        · have hne := ne_empty h0
          have HG := Lib.hid (hiB_get s h0)
          by_cases hb : (128 : Int) ≤ ((s[0]'h0).toNat : Int)
          · have HH : Hid (hiB s.toList = true) := Lib.hid (by rw [HG.out]; exact decide_eq_true hb)
            go_wp2_with fail
            refine (rtext_any _ _ (by rw [ByteArray.size_append, show ({ data := #[0] } : ByteArray).size = 1 from rfl]; omega)).mono ?_
            rintro e w' ⟨v', rfl, ho, hk⟩
            have HO := Lib.hid ho
            clear ho
            go_wp2
            go_ret
            refine ⟨v', rfl, ?_, hk⟩
            rw [HB.out, signed, HH.out]
            have := HO.out
            rw [zero_app] at this
            exact this
          · have HH : Hid (hiB s.toList = false) := Lib.hid (by rw [HG.out]; exact decide_eq_false hb)
            go_wp2_with fail
            refine (rtext_any s _ (by omega)).mono ?_
            rintro e w' ⟨v', rfl, ho, hk⟩
            have HO := Lib.hid ho
            clear ho
            go_wp2
            go_ret
            refine ⟨v', rfl, ?_, hk⟩
            rw [HB.out, signed, HH.out]
            exact HO.out
        · have hne := toList_nil h0
          have HH : Hid (hiB s.toList = false) := Lib.hid (by rw [hne]; rfl)
          have HN := Lib.hid hne
          go_wp2_with fail
          refine (rtext_any s _ (by omega)).mono ?_
          rintro e w' ⟨v', rfl, ho, hk⟩
          have HO := Lib.hid ho
          clear ho hne
          go_wp2
          go_ret
          refine ⟨v', rfl, ?_, hk⟩
          rw [HB.out, signed, HH.out]
          exact HO.out
      · obtain rfl : k = ys.length := by omega
        clear hc
        have h6' : ¬ cap2 = ys.length → bo.isSome = true := fun h => by
          cases bo with
          | none => have := h6 rfl; omega
          | some x => rfl
        by_cases hcc : cap2 = ys.length
        all_goals
          first
            | (subst hcc
               go_wp2_with (refine wl_str_of (l := []) (o := ⟨some 21, _, _, _, _, _⟩) rfl _ 24 9 5 rfl Tryd.underlying24 Tryd.underlying5 Tryd.underlying9 rfl (Rd.empty w bo 0 (Nat.zero_le _) (fun _ => rfl)) ?_))
            | (obtain ⟨x, rfl⟩ := Option.isSome_iff_exists.1 (h6' hcc)
               clear h6 h6'
               go_wp2_with (refine wl_str_of (l := []) (o := ⟨some 21, _, _, _, _, _⟩) rfl _ 24 9 5 rfl Tryd.underlying24 Tryd.underlying5 Tryd.underlying9 rfl (Rd.empty w (some _) _ (by unfold maxLen; omega) (by simp)) ?_))
          intro s hs
          have HSL : Hid (s.toList = stripZ ys) := Lib.hid (by rw [hs, ← hfin.out]; simp)
          have hsz : s.size ≤ 700000000 := by rw [← size_toList, hs]; simp
          clear hs
          have HB : Hid (encInt ys = encText (signed s.toList)) := Lib.hid (by rw [HSL.out]; rfl)
          by_cases h0 : 0 < s.size
          · have hne := ne_empty h0
            have HG := Lib.hid (hiB_get s h0)
            by_cases hb : (128 : Int) ≤ ((s[0]'h0).toNat : Int)
            · have HH : Hid (hiB s.toList = true) := Lib.hid (by rw [HG.out]; exact decide_eq_true hb)
              go_wp2_with fail
              refine (rtext_any _ _ (by rw [ByteArray.size_append, show ({ data := #[0] } : ByteArray).size = 1 from rfl]; omega)).mono ?_
              rintro e w' ⟨v', rfl, ho, hk⟩
              have HO := Lib.hid ho
              clear ho
              go_wp2
              go_ret
              refine ⟨v', rfl, ?_, hk⟩
              rw [HB.out, signed, HH.out]
              have := HO.out
              rw [zero_app] at this
              exact this
            · have HH : Hid (hiB s.toList = false) := Lib.hid (by rw [HG.out]; exact decide_eq_false hb)
              go_wp2_with fail
              refine (rtext_any s _ (by omega)).mono ?_
              rintro e w' ⟨v', rfl, ho, hk⟩
              have HO := Lib.hid ho
              clear ho
              go_wp2
              go_ret
              refine ⟨v', rfl, ?_, hk⟩
              rw [HB.out, signed, HH.out]
              exact HO.out
          · have hne := toList_nil h0
            have HH : Hid (hiB s.toList = false) := Lib.hid (by rw [hne]; rfl)
            have HN := Lib.hid hne
            go_wp2_with fail
            refine (rtext_any s _ (by omega)).mono ?_
            rintro e w' ⟨v', rfl, ho, hk⟩
            have HO := Lib.hid ho
            clear ho hne
            go_wp2
            go_ret
            refine ⟨v', rfl, ?_, hk⟩
            rw [HB.out, signed, HH.out]
            exact HO.out
end Go.Proofs.YtcbkaamcjogbgaaDoor
