/- The document's decoder: the next message. -/
import Derived.Test.YtmmbhmfbhleglaaDoorRefN
namespace Go.Proofs.YtmmbhmfbhleglaaDoor
open Go Go.RowKit
def RNPost (c : Nat) (r : List UInt8 × Nat × St) (w : World) (e : Ending) (w' : World) : Prop :=
  ∃ t : ByteArray, e = .returned (.tuple #[.string t, .int .i64 (r.2.1 : Nat)]) ∧ t.toList = r.1 ∧ Rf w' c r.2.2 ∧ Kp (fun g => g = c) w w'
theorem endM_toList : ({ data := #[93, 93, 62, 93, 93, 62] } : ByteArray).toList = endM := lit_toList _
theorem raw_err2 {W M W2 M2 a : List UInt8} {ch : Bool} {e : Nat} (h : rawS ⟨W, M, ch, false⟩ = (a, e, W2, M2)) (he : e = 2 ∨ e = 3) : nextS ⟨W, M, ch, false⟩ = ([], e, ⟨[], [], false, true⟩) := by
  unfold nextS
  rw [h]
  rcases he with rfl | rfl <;> rfl
theorem raw_ok2 {W M W2 M2 a : List UInt8} {ch : Bool} {e : Nat} (h : rawS ⟨W, M, ch, false⟩ = (a, e, W2, M2)) (he : e = 0 ∨ e = 4) : nextS ⟨W, M, ch, false⟩ = (a, e, ⟨W2, M2, ch, false⟩) := by
  unfold nextS
  rw [h]
  rcases he with rfl | rfl <;> rfl
set_option maxRecDepth 20000 in
set_option maxHeartbeats 4000000 in
theorem refCut_any (c : Nat) (b m : ByteArray) (y : Bool) (W M : List UInt8) (w : World) (h : Blk w c 29 [.bool false, .string b, .string m, .bool y, .bool false]) (hb : b.toList = W) (hm : m.toList = M) (hy : y = !M.isEmpty) (hl : W.length ≤ 1000000) :
    Calls Tryd.prog 10 #[.pointer (some ⟨c, 0, none⟩)] w (RNPost c (nextS ⟨W, M, false, false⟩) w) := by
  subst hy
  have H := Lib.hid h
  have c0 := h.cellV 0 rfl
  have c1 := h.cellV 1 rfl
  have c4 := h.cellV 4 rfl
  have f1 := blk_frozen h 1
  have hbs : b.size = W.length := by rw [← size_toList, hb]
  have hbi : (b.size : Int) ≤ 1000000 := by omega
  have HB := Lib.hid hb
  have HM := Lib.hid hm
  have HBL : Hid (b.size ≤ 1000000) := Lib.hid (by omega)
  obtain ⟨r, hr⟩ : ∃ r, r = Lib.index W endM := ⟨_, rfl⟩
  have HR := Lib.hid hr
  rcases cut_ref W M with ⟨i, hi, h1, h2, hc⟩ | ⟨i, hi, h1, hc⟩ | ⟨hi, h1, hc⟩ | ⟨hi, h1, hc⟩
  · obtain rfl : r = (i : Int) := hr.trans hi
    have HN := Lib.hid (raw_ok2 (ch := false) (e := 0) (by exact hc) (.inl rfl))
    have hii : ¬ (16384 : Int) < i := by omega
    have hi0 : ¬ (i : Int) < 0 := by omega
    have hi6 : (i : Int) + 6 ≤ b.size := by omega
    have hib : (i : Int) ≤ b.size := by omega
    have HI6 : Hid (i + 6 ≤ b.size) := Lib.hid (by omega)
    obtain ⟨j, hj⟩ : ∃ j, j = i + 6 := ⟨_, rfl⟩
    have hjj : (i : Int) + 6 = (j : Int) := by omega
    have hjb : (j : Int) ≤ b.size := by omega
    have HE : Hid ((b.extract 0 i).toList = W.take i ∧ (b.extract j b.size).toList = W.drop (i + 6)) := Lib.hid (by
      rw [extract_toList, extract_toList, hb, hj, List.drop_zero, Nat.sub_zero]
      exact ⟨rfl, List.take_of_length_le (by rw [List.length_drop, hbs]; omega)⟩)
    rw [HN.out]
    clear h hb hm hbs hr hi h1 h2 hc hl hj hi6
    go_enter Tryd.func10, Tryd.ntmps10
    go_wp2_with (go_at_call 13; refine (find_any b _ _ HBL.out (by decide) (by decide)).mono ?_; rw [endM_toList, HB.out, ← HR.out]; rintro e w' ⟨rfl, rfl⟩)
    all_goals go_ret2
    all_goals exact ⟨b.extract 0 i, rfl, HE.out.1, rf_live (H.out.set' 1 (.string (b.extract j b.size))) HE.out.2 HM.out, (Kp.refl (fun g => g = c) w).setCell (p := ⟨c, 1, none⟩) (fun _ => rfl) _⟩
  · obtain rfl : r = (i : Int) := hr.trans hi
    have HN := Lib.hid (raw_err2 (ch := false) (e := 2) (by exact hc) (.inl rfl))
    have hii : (16384 : Int) < i := by omega
    rw [HN.out]
    clear h hb hm hbs hr hi h1 hc hl
    go_enter Tryd.func10, Tryd.ntmps10
    go_wp2_with (first
      | (go_at_call 13; refine (find_any b _ _ HBL.out (by decide) (by decide)).mono ?_; rw [endM_toList, HB.out, ← HR.out]; rintro e w' ⟨rfl, rfl⟩)
      | (go_at_call 14; refine (dies_any c false _ false b m 2 _ H.out).mono ?_; rintro e w2 ⟨rfl, hd, hk⟩; have HD := Lib.hid hd; have HK := Lib.hid hk; clear hd hk))
    all_goals go_ret2
    all_goals exact ⟨{ data := #[] }, rfl, lit_toList _, rf_over HD.out rfl, HK.out⟩
  · obtain rfl : r = -1 := hr.trans hi
    have HN := Lib.hid (raw_err2 (ch := false) (e := 2) (by exact hc) (.inl rfl))
    have hii : decide ((16390 : Int) ≤ (b.size : Int)) = true := decide_eq_true (by omega)
    rw [HN.out]
    clear h hb hm hbs hr hi h1 hc hl hbi
    go_enter Tryd.func10, Tryd.ntmps10
    go_wp2_with (first
      | (go_at_call 13; refine (find_any b _ _ HBL.out (by decide) (by decide)).mono ?_; rw [endM_toList, HB.out, ← HR.out]; rintro e w' ⟨rfl, rfl⟩)
      | (go_at_call 14; refine (dies_any c false _ false b m 2 _ H.out).mono ?_; rintro e w2 ⟨rfl, hd, hk⟩; have HD := Lib.hid hd; have HK := Lib.hid hk; clear hd hk))
    all_goals go_ret2
    all_goals exact ⟨{ data := #[] }, rfl, lit_toList _, rf_over HD.out rfl, HK.out⟩
  · obtain rfl : r = -1 := hr.trans hi
    have HN := Lib.hid (raw_ok2 (ch := false) (e := 4) (by exact hc) (.inr rfl))
    have hii : decide ((16390 : Int) ≤ (b.size : Int)) = false := decide_eq_false (by omega)
    rw [HN.out]
    clear h hb hm hbs hr hi h1 hc hl hbi
    go_enter Tryd.func10, Tryd.ntmps10
    go_wp2_with (first
      | (go_at_call 13; refine (find_any b _ _ HBL.out (by decide) (by decide)).mono ?_; rw [endM_toList, HB.out, ← HR.out]; rintro e w' ⟨rfl, rfl⟩)
      | (go_at_call 14; refine (dies_any c false _ false b m 2 _ H.out).mono ?_; rintro e w2 ⟨rfl, hd, hk⟩; have HD := Lib.hid hd; have HK := Lib.hid hk; clear hd hk))
    all_goals go_ret2
    all_goals exact ⟨{ data := #[] }, rfl, lit_toList _, rf_live H.out HB.out HM.out, Kp.refl _ _⟩
end Go.Proofs.YtmmbhmfbhleglaaDoor
