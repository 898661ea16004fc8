/- The laws' own comparison of two lists of texts. -/
import Derived.Test.YtigghfbochemgaaDoorRead2
import Derived.BigQuiet
import Derived.Deep.QuietTactic
namespace Go.Proofs.YtigghfbochemgaaDoor
open Go Go.RowKit

set_option maxHeartbeats 1000000 in
theorem texts_any (v p : Value) (la lb : List ByteArray) (w : World) (hv : Rd w v (strs la)) (hp : Rd w p (strs lb)) :
    Calls Tryd.prog 15 #[v, p] w fun e w' => e = .returned (.bool (decide (lists la = lists lb))) ∧ Kp0 w w' := by
  have HV := Lib.hid hv
  have HP := Lib.hid hp
  obtain ⟨ao, cap, rfl, hc1, hc2, hc3⟩ := hv.shapeS
  obtain ⟨bo, cap2, rfl, hp1, hp2, hp3⟩ := hp.shapeS
  clear hv hp
  by_cases hl : la.length = lb.length
  · have hlb : ((la.length : Int) != (lb.length : Int)) = false := by rw [hl]; simp
    have HL := Lib.hid hl
    have hl1 : la.length ≤ lb.length := by omega
    have hl2 : lb.length ≤ la.length := by omega
    clear hl
    go_enter Tryd.func15, Tryd.ntmps15
    go_wp2
    go_loopw [13] (fun i wr => ∃ k : Nat, i = .int .i64 k ∧ k ≤ la.length ∧ Hid (la.take k = lb.take k) ∧ Kp0 w wr) (fun i _ => la.length - (intOf i).toNat)
    case atStart => exact ⟨0, rfl, Nat.zero_le _, Lib.hid rfl, Kp.refl _ _⟩
    case round =>
      obtain ⟨k, rfl, hk, HF, hkp⟩ := hrel
      have HK := Lib.hid hkp
      have R1 := HV.out.keep0 hkp
      have R2 := HP.out.keep0 hkp
      clear hkp
      by_cases h : k < la.length
      · have h2 : k < lb.length := by omega
        obtain ⟨b1, o1, d1, e1, _, _, cell1⟩ := R1.posS (by omega)
        simp only [Value.slice.injEq] at e1
        obtain ⟨rfl, _, rfl⟩ := e1
        obtain ⟨b2, o2, d2, e2, _, _, cell2⟩ := R2.posS (by omega)
        simp only [Value.slice.injEq] at e2
        obtain ⟨rfl, _, rfl⟩ := e2
        have ck1 := cell1 k h
        have ck2 := cell2 k h2
        obtain ⟨x, hx⟩ : ∃ x, x = la[k]'h := ⟨_, rfl⟩
        obtain ⟨y, hy⟩ : ∃ y, y = lb[k]'h2 := ⟨_, rfl⟩
        rw [← hx] at ck1
        rw [← hy] at ck2
        have HX := Lib.hid hx
        have HY := Lib.hid hy
        have i1 : (k : Int) < (la.length : Int) := by omega
        have i2 : (k : Int) < (lb.length : Int) := by omega
        clear cell1 cell2 R1 R2 hx hy
        by_cases hxy : x.toList = y.toList
        · have hb : (x.toList == y.toList) = true := by rw [hxy]; simp
          have HE := Lib.hid hxy
          clear hxy
          go_wp2_with fail
          go_quiet (fail)
          go_wp2
          go_roundw
          case rel => exact ⟨k + 1, by go_num, by omega, Lib.hid (by
            rw [List.take_succ_eq_append_getElem h, List.take_succ_eq_append_getElem h2, HF.out, ← HX.out, ← HY.out, str_ext HE.out]), HK.out.drewN _⟩
          case measure => simp [intOf]; omega
        · have hb : (x.toList == y.toList) = false := by rw [beq_eq_false_iff_ne]; exact hxy
          have HN : Hid (decide (lists la = lists lb) = false) := Lib.hid (decide_eq_false (fun e => hxy (by
            have e1 : (lists la)[k]'(by simp [lists]; exact h) = (lists lb)[k]'(by simp [lists]; exact h2) := by simp only [e]
            simp only [lists, List.getElem_map] at e1
            rw [HX.out, HY.out]; exact e1)))
          clear hxy
          go_wp2_with fail
          go_quiet (fail)
          go_wp2
          go_ret
          exact ⟨by rw [HN.out]; rfl, HK.out.drewN _⟩
      · have HN : Hid (decide (lists la = lists lb) = true) := Lib.hid (decide_eq_true (by
          have := HF.out
          rw [List.take_of_length_le (by omega), List.take_of_length_le (by omega)] at this
          rw [this]))
        clear R1 R2
        go_wp2
        go_ret
        exact ⟨by rw [HN.out]; rfl, HK.out⟩
  · have hlb : ((la.length : Int) != (lb.length : Int)) = true := by rw [bne_iff_ne]; omega
    have HF : Hid (decide (lists la = lists lb) = false) := Lib.hid (decide_eq_false (fun e => hl (by have := congrArg List.length e; simpa [lists] using this)))
    clear hl
    go_enter Tryd.func15, Tryd.ntmps15
    go_wp2
    go_ret
    exact ⟨by rw [HF.out]; rfl, Kp.refl _ _⟩
end Go.Proofs.YtigghfbochemgaaDoor
