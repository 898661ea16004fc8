/- The document's decoder: Next. -/
import Derived.Test.YtmmbhmfbhleglaaDoorRefP
import Derived.Test.YtmmbhmfbhleglaaDoorFSd
namespace Go.Proofs.YtmmbhmfbhleglaaDoor
open Go Go.RowKit
set_option maxRecDepth 20000 in
set_option maxHeartbeats 4000000 in
theorem refNext_any (c : Nat) (s : St) (w : World) (h : Rf w c s) (hl : s.W.length ≤ 1000000) (hM : s.M.length ≤ 16384) :
    Calls Tryd.prog 10 #[.pointer (some ⟨c, 0, none⟩)] w (RNPost c (nextS s) w) := by
  obtain ⟨W, M, ch, ov⟩ := s
  cases ov with
  | true =>
    have HN := Lib.hid (next_over ⟨W, M, ch, true⟩ rfl)
    rw [HN.out]
    have HR := Lib.hid h
    unfold Rf at h
    rw [if_pos rfl] at h
    obtain ⟨x, b, m, y, hb⟩ := h
    have c4 := hb.cellV 4 rfl
    clear hb hl hM
    go_enter Tryd.func10, Tryd.ntmps10
    go_wp2
    all_goals go_ret2
    all_goals exact ⟨{ data := #[] }, rfl, lit_toList _, HR.out, Kp.refl _ _⟩
  | false =>
    unfold Rf at h
    rw [if_neg (by simp)] at h
    obtain ⟨b, m, hb, h1, h2⟩ := h
    cases ch with
    | true => exact refGather_any c b m W M w hb h1 h2 hl hM
    | false => exact refCut_any c b m _ W M w hb h1 h2 rfl hl
end Go.Proofs.YtmmbhmfbhleglaaDoor
