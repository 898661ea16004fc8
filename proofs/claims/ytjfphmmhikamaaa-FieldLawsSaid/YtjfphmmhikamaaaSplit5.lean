/- Package field: split. -/
import Derived.Test.YtjfphmmhikamaaaMul5
namespace Go.Proofs.Ytjfphmmhikamaaa
open Go Go.RowKit
theorem or13 (h l : Int) (hh : 0 ≤ h ∧ h < 2251799813685248) (hl : 0 ≤ l ∧ l < 18446744073709551616) : bits .or .u64 (h * 8192) (l / 2251799813685248) = h * 8192 + l / 2251799813685248 :=
  bits_join .u64 64 (by decide) (fun n h0 h1 => by simp [IntKind.wrap, IntKind.bits, IntKind.signed] at h1 ⊢; omega) 13 _ _ (by omega) (by omega) (by omega) (by omega) (by omega) (by omega)
set_option maxRecDepth 20000 in
set_option maxHeartbeats 4000000 in
theorem split_any (h l : Int) (w : World) (hh : 0 ≤ h ∧ h < 2251799813685248) (hl : 0 ≤ l ∧ l < 18446744073709551616) :
    Calls Try.prog 60 #[.agg (kis .u64 [h, l]).toArray] w fun x w' => x = .returned (.tuple #[.int .u64 (l % 2251799813685248), .int .u64 (h * 8192 + l / 2251799813685248)]) ∧ Kp0 w w' := by
  have hm := F5.and51 l hl.1 hl.2
  have ho := or13 h l hh hl
  go_enter Try.func60, Try.ntmps60
  go_upto_region 1 with (fail)
  have HR0 := Lib.hid (ark0 (k := .u64) w 87 [h, l])
  have HK0 := Lib.hid ((Kp.refl (fun _ => False) w).alloc (.cells (kis .u64 [h, l]).toArray 87))
  change Code.wp _ _ _ _ (w.alloc (.cells (kis .u64 [h, l]).toArray 87))
  generalize (w.alloc (.cells (kis .u64 [h, l]).toArray 87)) = w1 at HR0 HK0
  have hc1 := HR0.out.cell' 0 (x := h) rfl
  have hc2 := HR0.out.cell' 1 (x := l) rfl
  go_region
  all_goals
    go_wp2
    go_ret2
    exact ⟨rfl, HK0.out.drew⟩
end Go.Proofs.Ytjfphmmhikamaaa
