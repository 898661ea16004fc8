/- A reader that is none. -/
import Derived.Test.YtigghfbochemgaaDoorRead2
namespace Go.Proofs.YtigghfbochemgaaDoor
open Go Go.RowKit

theorem ok_nil (w : World) : Calls Tryd.prog 22 #[.pointer none] w fun e w' => e = .returned (.bool false) ∧ w = w' := by
  go_enter Tryd.func22, Tryd.ntmps22
  go_wp2
  all_goals go_ret
  all_goals exact ⟨rfl, rfl⟩
theorem end_nil (w : World) : Calls Tryd.prog 23 #[.pointer none] w fun e w' => e = .returned (.bool false) ∧ w = w' := by
  go_enter Tryd.func23, Tryd.ntmps23
  go_wp2_with fail
  refine (ok_nil _).mono ?_
  rintro e w' ⟨rfl, rfl⟩
  go_wp2
  all_goals go_ret
  all_goals exact ⟨rfl, rfl⟩
theorem take_nil (n : Int) (w : World) : Calls Tryd.prog 28 #[.pointer none, .int .i64 n] w fun e w' => e = .returned (.string .empty) ∧ w = w' := by
  go_enter Tryd.func28, Tryd.ntmps28
  go_wp2_with fail
  refine (ok_nil _).mono ?_
  rintro e w' ⟨rfl, rfl⟩
  go_wp2
  all_goals go_ret
  all_goals exact ⟨rfl, rfl⟩
theorem byte_nil (w : World) : Calls Tryd.prog 8 #[.pointer none] w fun e w' => e = .returned (.int .u8 0) ∧ w = w' := by
  go_enter Tryd.func8, Tryd.ntmps8
  go_wp2_with fail
  refine (take_nil _ _).mono ?_
  rintro e w' ⟨rfl, rfl⟩
  go_wp2
  all_goals go_ret
  all_goals exact ⟨rfl, rfl⟩
theorem flag_nil (w : World) : Calls Tryd.prog 10 #[.pointer none] w fun e w' => e = .returned (.bool false) ∧ w = w' := by
  go_enter Tryd.func10, Tryd.ntmps10
  go_wp2_with fail
  refine (byte_nil _).mono ?_
  rintro e w' ⟨rfl, rfl⟩
  go_wp2
  all_goals go_ret
  all_goals exact ⟨rfl, rfl⟩
theorem u32_nil (w : World) : Calls Tryd.prog 11 #[.pointer none] w fun e w' => e = .returned (.int .u32 0) ∧ w = w' := by
  go_enter Tryd.func11, Tryd.ntmps11
  go_wp2_with fail
  refine (take_nil _ _).mono ?_
  rintro e w' ⟨rfl, rfl⟩
  go_wp2
  all_goals go_ret
  all_goals exact ⟨rfl, rfl⟩
theorem text_nil (w : World) : Calls Tryd.prog 13 #[.pointer none] w fun e w' => e = .returned (.string .empty) ∧ w = w' := by
  go_enter Tryd.func13, Tryd.ntmps13
  go_wp2_with fail
  refine (u32_nil _).mono ?_
  rintro e w' ⟨rfl, rfl⟩
  go_wp2_with fail
  refine (take_nil _ _).mono ?_
  rintro e w' ⟨rfl, rfl⟩
  go_wp2
  all_goals go_ret
  all_goals exact ⟨rfl, rfl⟩
theorem names_nil (w : World) : Calls Tryd.prog 16 #[.pointer none] w fun e w' => e = .returned (.slice none 0 0) ∧ w = w' := by
  go_enter Tryd.func16, Tryd.ntmps16
  go_wp2_with fail
  refine (text_nil _).mono ?_
  rintro e w' ⟨rfl, rfl⟩
  go_wp2
  all_goals go_ret
  all_goals exact ⟨rfl, rfl⟩
theorem bytes_nil (n : Int) (w : World) : Calls Tryd.prog 20 #[.pointer none, .int .i64 n] w fun e w' => (∃ v, e = .returned v ∧ ∃ a c, v = .slice a 0 c) ∧ Kp0 w w' := by
  go_enter Tryd.func20, Tryd.ntmps20
  go_wp2_with fail
  refine (take_nil n _).mono ?_
  rintro e w1 ⟨rfl, rfl⟩
  go_wp2_with (refine wl_bytes_of_str (o := ⟨some 8, _, _, _, _, _⟩) rfl _ 9 22 5 rfl Tryd.underlying9 Tryd.underlying22 Tryd.underlying5 .empty rfl (by decide) ?_)
  intro cap w2 hrd hg
  have hk2 := (Kp.refl (fun _ => False) w).grown hg (by simp)
  clear hrd hg
  go_wp2
  go_ret
  exact ⟨⟨_, rfl, _, _, rfl⟩, hk2⟩
theorem int_nil (w : World) : Calls Tryd.prog 18 #[.pointer none] w fun e w' => (∃ v, e = .returned v ∧ ∃ a c, v = .slice a 0 c) ∧ Kp0 w w' := by
  go_enter Tryd.func18, Tryd.ntmps18
  go_wp2_with fail
  refine (text_nil _).mono ?_
  rintro e w1 ⟨rfl, rfl⟩
  go_wp2_with fail
  refine (highBit_any _ _).mono ?_
  rintro e w' ⟨rfl, rfl⟩
  rw [show hiB (ByteArray.empty).toList = false by rw [show ByteArray.empty.toList = [] from nil_toList]; rfl]
  go_wp2_with (refine wl_bytes_of_str (o := ⟨some 18, _, _, _, _, _⟩) rfl _ 9 22 5 rfl Tryd.underlying9 Tryd.underlying22 Tryd.underlying5 .empty rfl (by decide) ?_)
  intro cap w2 hrd hg
  have hk2 := (Kp.refl (fun _ => False) w).grown hg (by simp)
  clear hrd hg
  go_wp2
  go_ret
  exact ⟨⟨_, rfl, _, _, rfl⟩, hk2⟩
end Go.Proofs.YtigghfbochemgaaDoor
