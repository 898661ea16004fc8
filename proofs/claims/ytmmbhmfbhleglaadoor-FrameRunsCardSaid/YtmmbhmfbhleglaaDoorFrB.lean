/- Package frame: how a head begins. -/
import Derived.Test.YtmmbhmfbhleglaaDoorFrA
import Derived.Deep.QuietTactic
import Derived.BigQuiet
namespace Go.Proofs.YtmmbhmfbhleglaaDoor
open Go Go.RowKit
def begB (h : List UInt8) : Bool := decide (h.take 2 = ([10, 35] : List UInt8).take h.length) && decide (h.length ≤ 9)
theorem eq_take (t : ByteArray) (n : Nat) : ((t.extract 0 n).toList == (({ data := #[10, 35] } : ByteArray).extract 0 n).toList) = decide (t.toList.take n = ([10, 35] : List UInt8).take n) := by
  have e : ({ data := #[10, 35] } : ByteArray).toList = [10, 35] := by rw [ByteArray.toList_eq]
  rw [extract_toList, extract_toList, e, List.drop_zero, List.drop_zero, Nat.sub_zero]
  exact Bool.eq_iff_iff.2 (by rw [beq_iff_eq, decide_eq_true_iff])
set_option maxRecDepth 20000 in
theorem begins_any (t : ByteArray) (w : World) (ht : t.size ≤ 100) : Calls Tryd.prog 27 #[.string t] w fun e w' => e = .returned (.bool (begB t.toList)) ∧ Kp0 w w' := by
  have hi : (t.size : Int) ≤ 100 := by omega
  have hsz := size_toList t
  by_cases h2 : 2 < t.size
  · have h2i : (2 : Int) < t.size := by omega
    have hb : begB t.toList = (decide (t.toList.take 2 = ([10, 35] : List UInt8).take 2) && decide ((t.size : Int) ≤ 9)) := by
      have e9 : decide (t.size ≤ 9) = decide ((t.size : Int) ≤ 9) := by simp only [decide_eq_decide]; omega
      unfold begB
      rw [hsz, e9, List.take_of_length_le (l := [10, 35]) (i := t.size) (by simp; omega)]
      rfl
    have he := eq_take t 2
    rw [hb]
    rw [← he]
    obtain ⟨c, hc⟩ : ∃ c, c = ((t.extract 0 2).toList == (({ data := #[10, 35] } : ByteArray).extract 0 2).toList) := ⟨_, rfl⟩
    rw [← hc]
    have hcs := hc.symm
    clear hb he hsz hc ht h2
    cases c <;> by_cases h9 : (t.size : Int) ≤ 9
    all_goals
      go_enter Tryd.func27, Tryd.ntmps27
      go_wp2
      go_quiet (fail)
      all_goals go_wp2
      all_goals go_ret
      all_goals exact ⟨by simp [h9], (Kp.refl _ _).drewN _⟩
  · have h2i : (t.size : Int) ≤ 2 := by omega
    have hb : begB t.toList = decide (t.toList.take t.size = ([10, 35] : List UInt8).take t.size) := by
      unfold begB
      rw [hsz, List.take_of_length_le (l := t.toList) (i := 2) (by omega), List.take_of_length_le (l := t.toList) (i := t.size) (by omega), decide_eq_true (p := t.size ≤ 9) (by omega), Bool.and_true]
    have he : (t.toList == (({ data := #[10, 35] } : ByteArray).extract 0 t.size).toList) = decide (t.toList.take t.size = ([10, 35] : List UInt8).take t.size) := by
      have e1 : (t.extract 0 t.size).toList = t.toList := by rw [extract_toList, List.drop_zero, Nat.sub_zero, List.take_of_length_le (by omega)]
      have e2 := eq_take t t.size
      rw [e1] at e2
      exact e2
    rw [hb]
    rw [← he]
    obtain ⟨c, hc⟩ : ∃ c, c = (t.toList == (({ data := #[10, 35] } : ByteArray).extract 0 t.size).toList) := ⟨_, rfl⟩
    rw [← hc]
    have hcs := hc.symm
    have h9 : (t.size : Int) ≤ 9 := by omega
    clear hb he hsz hc ht h2
    cases c
    all_goals
      go_enter Tryd.func27, Tryd.ntmps27
      go_wp2
      go_quiet (fail)
      all_goals go_wp2
      all_goals go_ret
      all_goals exact ⟨by simp, (Kp.refl _ _).drewN _⟩
end Go.Proofs.YtmmbhmfbhleglaaDoor
