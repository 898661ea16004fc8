/- The law FieldLaws: its walk, for the integer as it comes. -/
import Derived.Test.YtjfphmmhikamaaaLaws3
import Derived.OpenShut
namespace Go.Proofs.Ytjfphmmhikamaaa
open Go Go.RowKit
variable {R : List Value → Nat → Prop}
theorem flaws_int (F : Fld R) (L : List UInt8) (a : Int) (w : World) (hL : L.length = 3 * 32) (ha : (Lit.int .u32 a).wf = true) :
    Calls Try.prog 9 #[.agg (bys L).toArray, .int .u32 a] w fun e w' => e = .returned (.bool true) ∧ Kp0 w w' := by
  have hb := bounds_u32 ha
  obtain ⟨k, rfl⟩ := Int.eq_ofNat_of_zero_le hb.1
  exact flaws_walk F L k w hL (by omega)
end Go.Proofs.Ytjfphmmhikamaaa
