/- What the calls of the document's answers for layer 1 do (the writers). -/
import Derived.Test.YtbifdckmkogbgaaWire
namespace Go.Proofs.Ytbifdckmkogbgaa
open Go Go.RowKit

set_option maxHeartbeats 400000 in
theorem ru32_any (m : Nat) (w : World) (hm : m < 4294967296) :
    Calls Try.prog 19 #[.int .i64 (m : Int)] w fun e w' => ∃ v', e = .returned v' ∧ Own w.heap.size 5 w' v' (bys (be4 m)) ∧ Kp0 w w' := by
  go_enter Try.func19, Try.ntmps19
  go_wp2
  go_ret
  exact ⟨_, rfl, by rw [← bys_be4 m hm]; exact Own.lit w _ _ 4 rfl (by decide), (Kp.refl _ w).alloc _⟩

set_option maxHeartbeats 400000 in
theorem rtext_any (s : ByteArray) (w : World) (hl : s.size ≤ 800000000) :
    Calls Try.prog 18 #[.string s] w fun e w' => ∃ v', e = .returned v' ∧ Own w.heap.size 5 w' v' (bys (encText s.toList)) ∧ Kp0 w w' := by
  go_enter Try.func18, Try.ntmps18
  go_wp2_with fail
  refine (ru32_any s.size _ (by omega)).mono ?_
  rintro e w' ⟨v', rfl, ho, hk⟩
  have HO := Lib.hid ho
  have HK := Lib.hid hk
  have hsz := hk.size
  clear ho hk
  go_wp2_with (at_builtin; refine wl_append_str rfl _ _ 33 9 rfl Try.underlying33 Try.underlying9 infoU8 s rfl rfl HO.out (by rw [bys_len]; simp [be4]; omega) hsz ?_)
  intro v2 w2 ho2 hg
  have hlt := HO.out.lt
  go_wp2
  go_ret
  refine ⟨v2, rfl, ?_, HK.out.grown hg (fun k hk1 hk2 => by have := hlt k hk1; omega)⟩
  rw [← bys_app] at ho2
  simpa [encText, size_toList] using ho2

theorem rint_step (l : List UInt8) (k : Nat) (h : k < l.length) (hz : (l[k]'h).toNat = 0) : stripZ (l.drop (k + 1)) = stripZ (l.drop k) := by
  rw [List.drop_eq_getElem_cons h]
  have : l[k] = 0 := UInt8.toNat_inj.1 (by simpa using hz)
  conv => rhs; unfold stripZ
  exact (if_pos this).symm
theorem rint_end (l : List UInt8) (k : Nat) (hc : ¬ ∃ h : k < l.length, (l[k]'h).toNat = 0) : stripZ (l.drop k) = l.drop k := by
  by_cases h : k < l.length
  · rw [List.drop_eq_getElem_cons h]
    conv => lhs; unfold stripZ
    exact if_neg (fun e => hc ⟨h, by rw [e]; rfl⟩)
  · rw [List.drop_of_length_le (by omega)]; rfl
end Go.Proofs.Ytbifdckmkogbgaa
