/- SieveFilters: its walk. -/
import Derived.Test.YtmamcnhofgfolaaTsL
import Derived.Test.YtmamcnhofgfolaaTrH
namespace Go.Proofs.Ytmamcnhofgfolaa
open Go Go.RowKit
set_option maxRecDepth 20000 in
set_option maxHeartbeats 2000000 in
theorem sfilters_walk {F G : Nat → Prop} (es fs : List PE) (ev fv : Value) (w : World) (he : RowE F w ev es) (hf : RowE G w fv fs) (ht : tsOk es) (htf : tsOk fs) :
    Calls Try.prog 3 #[ev, fv] w fun r w' => r = .returned (.bool true) ∧ Kp0 w w' := by
  have HE := Lib.hid he
  have HF := Lib.hid hf
  have HT := Lib.hid ht
  have HTF := Lib.hid htf
  clear he hf ht htf
  go_enter Try.func3, Try.ntmps3
  go_upto_region 3 with (go_at_call 7; refine (fit_any _).mono ?_; rintro r w1 ⟨rfl, hk⟩; have HK1 := Lib.hid hk; clear hk)
  cases htr : treeT es with
  | none =>
    have HTR := Lib.hid htr
    clear htr
    go_wp2_with (go_at_call 8; refine (tree_any es ev _ (HE.out.kp0 HK1.out) HT.out).mono ?_; rw [HTR.out]; rintro r w2 ⟨rfl, hk⟩; have HK2 := Lib.hid (HK1.out.tr hk); clear hk)
    go_ret
    exact ⟨rfl, HK2.out⟩
  | some ns =>
    have HTR := Lib.hid htr
    have HGD := Lib.hid (treeT_good htr)
    clear htr
    go_upto_region 4 with (go_at_call 8; refine (tree_any es ev _ (HE.out.kp0 HK1.out) HT.out).mono ?_; rw [HTR.out]; rintro r w2 ⟨⟨nv, rfl, hn⟩, hk⟩; have HN := Lib.hid hn; have HK2 := Lib.hid (HK1.out.tr hk); clear hn hk)
    by_cases hs : smAll fs 300 < 0
    · go_wp2_with (go_at_call 9; refine (small_any fs _ fv 300 _ (HF.out.kp0 HK2.out) HTF.out (by decide) (by decide)).mono ?_; rintro r w3 ⟨rfl, hk⟩; have HK3 := Lib.hid (HK2.out.tr hk); clear hk)
      go_ret
      exact ⟨rfl, HK3.out⟩
    · have HFW := Lib.hid (smAll_few fs 300 (by omega) (by decide))
      have HFC : Hid (cntEs fs ≤ 1000000) := Lib.hid (by have := smAll_cnt fs 300 (by omega); omega)
      have HEQ : Hid (eqL (filterT schD ns fs) (cutT ns (marksT schD ns fs)) = true) := Lib.hid (by rw [filter_cut schD ns fs HGD.out.1]; exact eqL_refl _)
      go_upto_region 6 with (go_at_call 9; refine (small_any fs _ fv 300 _ (HF.out.kp0 HK2.out) HTF.out (by decide) (by decide)).mono ?_; rintro r w3 ⟨rfl, hk⟩; have HK3 := Lib.hid (HK2.out.tr hk); have HN := Lib.hid (HN.out.kp0 hk); clear hk)
      go_wp2_with (first
        | (go_at_call 10
           refine (schema_any _).mono ?_
           rintro r w4 ⟨sv, rfl, hsv, hk⟩
           have HSV := Lib.hid hsv
           have HK4 := Lib.hid (HK3.out.tr hk)
           have HN := Lib.hid (HN.out.kp0 hk)
           clear hsv hk)
        | (go_at_call 12
           refine (filter_any schD ns fs sv nv fv _ HSV.out HN.out (HF.out.kp0 HK4.out) (by have := HGD.out.2.2; omega) HGD.out.2.1 HFC.out).mono ?_
           rintro r w5 ⟨⟨av, rfl, ha⟩, hk⟩
           have HA := Lib.hid ha
           have HK5 := Lib.hid (HK4.out.tr hk)
           have HN := Lib.hid (HN.out.kp0 hk)
           have HSV := Lib.hid (HSV.out.kp0 hk)
           clear ha hk)
        | (go_at_call 13
           refine (refFilter_any schD ns fs sv nv fv _ HSV.out HN.out (HF.out.kp0 HK5.out) (by have := HGD.out.2.2; omega) HGD.out.2.1 HFW.out.1).mono ?_
           rintro r w6 ⟨⟨bv, rfl, hb⟩, hk⟩
           have HB := Lib.hid hb
           have HK6 := Lib.hid (HK5.out.tr hk)
           have HA := Lib.hid (HA.out.kp0 hk)
           clear hb hk)
        | (go_at_call 11
           refine (equal_any (filterT schD ns fs) _ _ (cutT ns (marksT schD ns fs)) av bv _ HA.out HB.out).mono ?_
           rw [HEQ.out]
           rintro r w7 ⟨rfl, hk⟩
           have HK7 := Lib.hid (HK6.out.tr hk)
           clear hk))
      go_ret
      exact ⟨rfl, HK7.out⟩
end Go.Proofs.Ytmamcnhofgfolaa
