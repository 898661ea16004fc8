/- The law ChansNone: its walk. -/
import Derived.Test.YtbifdckmkogbgaaChV
namespace Go.Proofs.Ytbifdckmkogbgaa
open Go Go.RowKit
theorem cnone_walk (v : Value) (l : List UInt8) (w : World) (hv : Rd w v (bys l)) :
    Calls Try.prog 6 #[v] w fun e w' => e = .returned (.bool true) ∧ Kp0 w w' := by
  have HV := Lib.hid hv
  clear hv
  go_enter Try.func6, Try.ntmps6
  go_wp2_with fail
  refine (fit_any _).mono ?_
  rintro e w1 ⟨rfl, hk⟩
  have HK1 := Lib.hid hk
  clear hk
  go_wp2_with (first
    | (go_at_call 26; refine (state_nil _).mono ?_; rintro e w' ⟨rfl, rfl⟩)
    | (go_at_call 27; refine (ready_nil _).mono ?_; rintro e w' ⟨rfl, rfl⟩)
    | (go_at_call 20; refine (out_nil _).mono ?_; rintro e w' ⟨rfl, rfl⟩)
    | (go_at_call 11; refine (begin_nil _).mono ?_; rintro e w' ⟨rfl, rfl⟩)
    | (go_at_call 14; refine (send_nil _ _).mono ?_; rintro e w' ⟨rfl, rfl⟩)
    | (go_at_call 13; refine (recv_nil _).mono ?_; rintro e w' ⟨rfl, rfl⟩)
    | (go_at_call 15; refine (pending_nil _).mono ?_; rintro e w' ⟨rfl, rfl⟩)
    | (go_at_call 25; refine (close_nil _).mono ?_; rintro e w' ⟨rfl, rfl⟩)
    | (go_at_call 16; refine (take_nil v l _ (HV.out.keep0 HK1.out)).mono ?_; rintro e w2 ⟨rfl, hk⟩; have HK2 := Lib.hid (HK1.out.tr hk); clear hk))
  all_goals go_ret
  all_goals exact ⟨rfl, HK2.out⟩
end Go.Proofs.Ytbifdckmkogbgaa
