/- Package frame: encoding, and the document's. -/
import Derived.Test.YtmmbhmfbhleglaaDoorGw
import Derived.Lib.ItoaLen
namespace Go.Proofs.YtmmbhmfbhleglaaDoor
open Go Go.RowKit
def EncPost (m : List UInt8) (ch : Bool) (w : World) (e : Ending) (w' : World) : Prop := ∃ t : ByteArray, e = .returned (.string t) ∧ t.toList = encS m ch ∧ Kp0 w w'
theorem app_toList (a b : ByteArray) : (a ++ b).toList = a.toList ++ b.toList := by
  rw [ByteArray.toList_eq, ByteArray.toList_eq, ByteArray.toList_eq]
  simp
theorem lit_toList (l : Array UInt8) : ({ data := l } : ByteArray).toList = l.toList := by rw [ByteArray.toList_eq]
theorem empty_toList : (ByteArray.empty).toList = [] := by rw [ByteArray.toList_eq]; rfl
theorem digits_size {v : ByteArray} {n : Nat} (hv : v.toList = Lib.decDigits n) (hn : n < 18446744073709551616) : (v.size : Int) ≤ 20 := by
  have h1 := size_toList v
  rw [hv, Lib.decDigits_length] at h1
  have := Lib.nDigits_le20 n hn
  omega
set_option maxRecDepth 20000 in
set_option maxHeartbeats 1000000 in
theorem encode_any (m : ByteArray) (ch : Bool) (w : World) (hg : Gw w) (hm : m.size ≤ 1000000) : Calls Tryd.prog 8 #[.string m, .bool ch] w (EncPost m.toList ch w) := by
  have HG := Lib.hid hg
  have hmi : (m.size : Int) ≤ 1000000 := by omega
  clear hg
  cases ch with
  | false =>
    go_enter Tryd.func8, Tryd.ntmps8
    go_wp2
    all_goals go_ret
    all_goals exact ⟨m ++ { data := #[93, 93, 62, 93, 93, 62] }, rfl, by rw [app_toList, lit_toList #[93, 93, 62, 93, 93, 62]]; rfl, Kp.refl _ _⟩
  | true =>
    by_cases h0 : m.toList = []
    · obtain rfl : m = .empty := str_ext (by rw [h0, empty_toList])
      go_enter Tryd.func8, Tryd.ntmps8
      go_wp2
      all_goals go_ret
      all_goals exact ⟨{ data := #[] }, rfl, by rw [lit_toList #[], empty_toList]; rfl, Kp.refl _ _⟩
    · have H0 := Lib.hid h0
      have h0e : m.toList.isEmpty = false := by simpa using h0
      have hm0 : (0 : Int) ≤ m.size := by omega
      clear h0
      go_enter Tryd.func8, Tryd.ntmps8
      go_wp2_with (go_at_call 11; refine (itoa_any m.size _ HG.out (by omega)).mono ?_; rintro e w2 ⟨v, rfl, hv, hk⟩; have hvs : (v.size : Int) ≤ 20 := digits_size hv (by omega); have HV := Lib.hid hv; have HK2 := Lib.hid hk; clear hv hk)
      all_goals go_ret
      all_goals
        refine ⟨{ data := #[10, 35] } ++ v ++ { data := #[10] } ++ m ++ { data := #[10, 35, 35] } ++ { data := #[10] }, rfl, ?_, HK2.out⟩
        rw [app_toList, app_toList, app_toList, app_toList, app_toList, lit_toList #[10, 35], lit_toList #[10], lit_toList #[10, 35, 35], HV.out]
        unfold encS
        rw [if_pos rfl, if_neg H0.out, size_toList]
        simp
end Go.Proofs.YtmmbhmfbhleglaaDoor
