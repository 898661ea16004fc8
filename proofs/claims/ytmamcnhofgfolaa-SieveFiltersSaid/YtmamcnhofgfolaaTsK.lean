/- The laws of layer 16: tree, fit. -/
import Derived.Test.YtmamcnhofgfolaaTsJ
import Derived.Test.YtmamcnhofgfolaaTsF
namespace Go.Proofs.Ytmamcnhofgfolaa
open Go Go.RowKit
/-- The tree that elements are; none: they are none, or too many. -/
def treeT (es : List PE) : Option (List PN) := if smAll es 300 < 0 then none else match readT schD es with
  | .ok ns => some ns
  | .er x => if x = 0 then some [] else none
def TreeA (w0 w : World) (r : Ending) : Option (List PN) → Prop
  | none => r = .returned (.tuple #[.slice none 0 0, .bool false])
  | some ns => ∃ v, r = .returned (.tuple #[v, .bool true]) ∧ RowN (fun i => w0.heap.size ≤ i) w v ns
theorem treeT_good {es : List PE} {ns : List PN} (h : treeT es = some ns) : GdL ns schD 10 ∧ ksOk ns = true ∧ ns.length ≤ 256 := by
  unfold treeT at h
  split at h
  · cases h
  · cases hr : readT schD es with
    | ok l =>
      rw [hr] at h
      cases h
      exact readD_good hr
    | er x =>
      rw [hr] at h
      simp only [] at h
      split at h
      · cases h
        exact ⟨by unfold GdL; trivial, rfl, Nat.zero_le _⟩
      · cases h
theorem schD_ok : dsOk schD = true := by decide +kernel
set_option maxRecDepth 20000 in
set_option maxHeartbeats 1000000 in
theorem tree_any {F : Nat → Prop} (es : List PE) (ev : Value) (w : World) (he : RowE F w ev es) (ht : tsOk es) :
    Calls Try.prog 8 #[ev] w fun r w' => TreeA w w' r (treeT es) ∧ Kp0 w w' := by
  have HE := Lib.hid he
  have HT := Lib.hid ht
  clear he ht
  go_enter Try.func8, Try.ntmps8
  by_cases hs : smAll es 300 < 0
  · have HR : Hid (treeT es = none) := Lib.hid (by unfold treeT; rw [if_pos hs])
    go_wp2_with (go_at_call 9; refine (small_any es _ ev 300 _ HE.out HT.out (by decide) (by decide)).mono ?_; rintro r w1 ⟨rfl, hk⟩; have HK1 := Lib.hid hk; clear hk)
    go_ret2
    exact ⟨by rw [HR.out]; rfl, HK1.out⟩
  · have HF := Lib.hid (smAll_few es 300 (by omega) (by decide))
    cases hr : readT schD es with
    | ok ns =>
      have HR : Hid (treeT es = some ns) := Lib.hid (by unfold treeT; rw [if_neg hs, hr])
      have HRR := Lib.hid hr
      clear hr
      go_wp2_with (first
        | (go_at_call 9; refine (small_any es _ ev 300 _ HE.out HT.out (by decide) (by decide)).mono ?_; rintro r w1 ⟨rfl, hk⟩; have HK1 := Lib.hid hk; clear hk)
        | (go_at_call 10; refine (schema_any _).mono ?_; rintro r w2 ⟨sv, rfl, hsv, hk⟩; have HSV := Lib.hid hsv; have HK2 := Lib.hid (HK1.out.tr hk); clear hsv hk)
        | (go_at_call 19; refine (read_any es _ _ schD sv ev _ HSV.out (HE.out.kp0 HK2.out) schD_ok HF.out.1 (by have := HF.out.2; omega)).mono ?_; rw [HRR.out]; rintro r w3 ⟨⟨v, rfl, hv⟩, hk⟩; have HV := Lib.hid hv; have HSZ : Hid (w.heap.size ≤ w2.heap.size) := Lib.hid HK2.out.size; have HK3 := Lib.hid (HK2.out.tr hk); clear hv hk))
      go_ret2
      exact ⟨by rw [HR.out]; exact ⟨v, rfl, HV.out.mono (fun i hi _ => Nat.le_trans HSZ.out hi)⟩, HK3.out⟩
    | er x =>
      have HRR := Lib.hid hr
      clear hr
      rcases Nat.eq_zero_or_pos x with hx | hx
      · subst hx
        have HR : Hid (treeT es = some []) := Lib.hid (by unfold treeT; rw [if_neg hs, HRR.out]; rfl)
        go_wp2_with (first
          | (go_at_call 9; refine (small_any es _ ev 300 _ HE.out HT.out (by decide) (by decide)).mono ?_; rintro r w1 ⟨rfl, hk⟩; have HK1 := Lib.hid hk; clear hk)
          | (go_at_call 10; refine (schema_any _).mono ?_; rintro r w2 ⟨sv, rfl, hsv, hk⟩; have HSV := Lib.hid hsv; have HK2 := Lib.hid (HK1.out.tr hk); clear hsv hk)
          | (go_at_call 19; refine (read_any es _ _ schD sv ev _ HSV.out (HE.out.kp0 HK2.out) schD_ok HF.out.1 (by have := HF.out.2; omega)).mono ?_; rw [HRR.out]; rintro r w3 ⟨rfl, hk⟩; have HK3 := Lib.hid (HK2.out.tr hk); clear hk))
        go_ret2
        exact ⟨by rw [HR.out]; exact ⟨_, rfl, RowN.nil _ _⟩, HK3.out⟩
      · have HR : Hid (treeT es = none) := Lib.hid (by unfold treeT; rw [if_neg hs, HRR.out]; simp only []; rw [if_neg (by omega)])
        have f1 : ((x : Int) == 0) = false := by rw [beq_eq_false_iff_ne]; omega
        go_wp2_with (first
          | (go_at_call 9; refine (small_any es _ ev 300 _ HE.out HT.out (by decide) (by decide)).mono ?_; rintro r w1 ⟨rfl, hk⟩; have HK1 := Lib.hid hk; clear hk)
          | (go_at_call 10; refine (schema_any _).mono ?_; rintro r w2 ⟨sv, rfl, hsv, hk⟩; have HSV := Lib.hid hsv; have HK2 := Lib.hid (HK1.out.tr hk); clear hsv hk)
          | (go_at_call 19; refine (read_any es _ _ schD sv ev _ HSV.out (HE.out.kp0 HK2.out) schD_ok HF.out.1 (by have := HF.out.2; omega)).mono ?_; rw [HRR.out]; rintro r w3 ⟨rfl, hk⟩; have HK3 := Lib.hid (HK2.out.tr hk); clear hk))
        go_ret2
        exact ⟨by rw [HR.out]; rfl, HK3.out⟩
end Go.Proofs.Ytmamcnhofgfolaa
