/- The law PacketNone: what is none writes and reads nothing. -/
import Derived.Test.YtnbfedmecmdjlaaDoorGu
namespace Go.Proofs.YtnbfedmecmdjlaaDoor
open Go Go.RowKit
set_option maxRecDepth 20000 in
set_option maxHeartbeats 8000000 in
theorem pnone_walk (v : Value) (l : List UInt8) (s : ByteArray) (w : World) (ht : TabM w.heap.size w) (hv : Rd w v (bys l)) :
    Calls Tryd.prog 6 #[v, .string s] w fun e w' => e = .returned (.bool true) ∧ Kp0 w w' := by
  obtain ⟨a, c, rfl, -, -, -⟩ := hv.shapeB
  have HT := Lib.hid ht
  clear ht hv
  go_enter Tryd.func6, Tryd.ntmps6
  go_wp2_with (first
    | (go_at_call 8
       refine (pfit_any _ HT.out).mono ?_
       rintro e w2 ⟨rfl, hk⟩
       have HK2 := Lib.hid hk
       clear hk)
    | (go_at_call 10; refine (write_nil _ s _ ⟨_, _, _, rfl⟩).mono ?_; rintro e w3 ⟨rfl, rfl⟩)
    | (go_at_call 18; refine (feed_nil _ _).mono ?_; rintro e w3 ⟨rfl, rfl⟩)
    | (go_at_call 20; refine (next_nil _).mono ?_; rintro e w3 ⟨rfl, rfl⟩)
    | (go_at_call 14; refine (left_nil _).mono ?_; rintro e w3 ⟨rfl, rfl⟩))
  go_ret
  exact ⟨rfl, HK2.out⟩
end Go.Proofs.YtnbfedmecmdjlaaDoor
