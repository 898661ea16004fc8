/- Names and Join: the document's. -/
import Derived.Test.YtbifdckmkogbgaaRef
namespace Go.Proofs.Ytbifdckmkogbgaa
open Go Go.RowKit

theorem flat_succ (ls : List (List UInt8)) (k : Nat) (h : k < ls.length) : (ls.take (k + 1)).flatten = (ls.take k).flatten ++ ls[k]'h := by
  rw [List.take_succ_eq_append_getElem h]
  simp only [List.flatten_append, List.flatten_cons, List.flatten_nil, List.append_nil]
theorem flat_le (ls : List (List UInt8)) (k : Nat) (h : k < ls.length) : (ls.take k).flatten.length + (ls[k]'h).length ≤ ls.flatten.length := by
  have e : ls = ls.take (k + 1) ++ ls.drop (k + 1) := (List.take_append_drop _ _).symm
  have h2 : ls.flatten.length = (ls.take (k + 1)).flatten.length + (ls.drop (k + 1)).flatten.length := by
    conv => lhs; rw [e, List.flatten_append, List.length_append]
  rw [h2, flat_succ ls k h, List.length_append]
  omega
/-- Each of the slices reads as its list. -/
def AllRd (w : World) (vs : List Value) (ls : List (List UInt8)) : Prop := vs.length = ls.length ∧ ∀ i (h : i < vs.length) (h2 : i < ls.length), Rd w (vs[i]'h) (bys (ls[i]'h2))

theorem AllRd.nil (w : World) : AllRd w [] [] := ⟨rfl, fun i h => by simp at h⟩
theorem AllRd.cons {w : World} {v : Value} {l : List UInt8} {vs : List Value} {ls : List (List UInt8)} (h : Rd w v (bys l)) (h2 : AllRd w vs ls) : AllRd w (v :: vs) (l :: ls) := by
  refine ⟨by simp [h2.1], fun i h3 h4 => ?_⟩
  cases i with
  | zero => exact h
  | succ i => exact h2.2 i (by simpa using h3) (by simpa using h4)
theorem AllRd.slices {w : World} {vs : List Value} {ls : List (List UInt8)} (h : AllRd w vs ls) : ∀ v ∈ vs, ∃ a n c, v = .slice a n c := by
  intro v hv
  obtain ⟨i, hi, rfl⟩ := List.getElem_of_mem hv
  obtain ⟨ao, cap, e, _⟩ := h.2 i hi (by have := h.1; omega)
  exact ⟨_, _, _, e⟩

set_option maxHeartbeats 1000000 in
theorem rjoin_any (p : Value) (vs : List Value) (ls : List (List UInt8)) (w : World) (hp : Rd w p vs) (ha : AllRd w vs ls) (hl : ls.flatten.length ≤ 600000000) :
    Calls Try.prog 17 #[p] w fun e w' => ∃ v', e = .returned v' ∧ Own w.heap.size 5 w' v' (bys ls.flatten) ∧ Kp0 w w' := by
  have HP := Lib.hid hp
  have HA := Lib.hid ha
  have hsl := ha.slices
  have HSL := Lib.hid hsl
  obtain ⟨bo, cap2, rfl, h4, h5, h6⟩ := hp.shape
  unfold maxLen at h5
  clear hp ha hsl
  go_enter Try.func17, Try.ntmps17
  go_wp2
  go_loopw [3, 4] (fun t i wr => ∃ k : Nat, i = .int .i64 k ∧ k ≤ vs.length ∧ Own w.heap.size 5 wr t (bys (ls.take k).flatten) ∧ Kp (fun b => w.heap.size ≤ b) w wr) (fun _ i _ => vs.length - (intOf i).toNat)
  case atStart => exact ⟨0, rfl, Nat.zero_le _, Own.nil _ _ _, Kp.refl _ _⟩
  case round =>
    obtain ⟨k, rfl, hk, ho, hkp⟩ := hrel
    by_cases h : k < vs.length
    · have h2 : k < ls.length := by have := HA.out.1; omega
      have HR := Lib.hid ((HA.out.2 k h h2).keep hkp (fun b _ h1 (h3 : w.heap.size ≤ b) => by omega))
      obtain ⟨b, o, c, e, _, _, hcell⟩ := HP.out.pos (by omega)
      simp only [Value.slice.injEq] at e
      obtain ⟨rfl, _, rfl⟩ := e
      have hck := hkp.cell (hcell k h) (fun (h3 : w.heap.size ≤ b) => by have := World.block_lt_of_cell? w _ (hcell k h); simp at this; omega)
      obtain ⟨a1, n1, c1, e1⟩ := HSL.out _ (List.getElem_mem h)
      have hlen : (ls.take k).flatten.length + (ls[k]'h2).length ≤ ls.flatten.length := flat_le ls k h2
      have hfl := Lib.hid (flat_succ ls k h2)
      have HO := Lib.hid ho
      have HK := Lib.hid hkp
      have hbs := hkp.size
      rw [e1] at hck HR
      clear hcell e1 ho hkp
      go_wp2_with (at_builtin; refine wl_append_own rfl _ _ 33 rfl Try.underlying33 infoU8 rfl rfl rfl HO.out HR.out (bys_one _) (by rw [bys_len, bys_len]; unfold maxLen; omega) (by rw [bys_len, bys_len]; omega) hbs ?_)
      intro v' w' ho' hg
      have hlt := HO.out.lt
      have HO' : Hid (Own w.heap.size 5 w' v' (bys (ls.take (k + 1)).flatten)) := Lib.hid (by rw [hfl.out, bys_app]; exact ho')
      have HK' := Lib.hid (HK.out.grown hg (fun k hk1 hk2 => (hlt k hk1).1))
      clear ho' hg hlt hck
      go_wp2
      go_roundw
      case rel => exact ⟨k + 1, by go_num, by omega, HO'.out, HK'.out⟩
      case measure => simp [intOf]; omega
    · have e0 : Hid ((ls.take k).flatten = ls.flatten) := Lib.hid (by rw [List.take_of_length_le (by have := HA.out.1; omega)])
      have HO := Lib.hid ho
      have HK := Lib.hid hkp
      clear ho hkp
      go_wp2
      go_ret
      exact ⟨_, rfl, by rw [← e0.out]; exact HO.out, HK.out.mono (fun i hi h => by omega)⟩
end Go.Proofs.Ytbifdckmkogbgaa
