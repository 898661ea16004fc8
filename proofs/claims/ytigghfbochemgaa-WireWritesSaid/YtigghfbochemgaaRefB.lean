/- Names and Join: the document's. -/
import Derived.Test.YtigghfbochemgaaRef
import Derived.Test.YtigghfbochemgaaJoin
namespace Go.Proofs.Ytigghfbochemgaa
open Go Go.RowKit

set_option maxHeartbeats 1000000 in
theorem rnames_any (p : Value) (l : List ByteArray) (w : World) (hp : Rd w p (strs l)) (hl : wide l ≤ 600000000) :
    Calls Try.prog 13 #[p] w fun e w' => ∃ v', e = .returned v' ∧ Own w.heap.size 5 w' v' (bys (encNames l)) ∧ Kp0 w w' := by
  have HP := Lib.hid hp
  obtain ⟨bo, cap2, rfl, h4, h5, h6⟩ := hp.shapeS
  clear hp
  go_enter Try.func13, Try.ntmps13
  go_wp2
  go_loop [3, 4] (fun t i => ∃ (k : Nat) (s : ByteArray), i = .int .i64 k ∧ k ≤ l.length ∧ t = .string s ∧ s.size ≤ wide (l.take k) ∧ Hid (s.toList = Lib.join (lists (l.take k)) [44])) (fun _ i => l.length - (intOf i).toNat)
  case atStart => exact ⟨0, { data := #[] }, rfl, Nat.zero_le _, rfl, Nat.zero_le _, Lib.hid (by rw [nil_toList]; rfl)⟩
  case round =>
    obtain ⟨k, s, rfl, hk, rfl, hsz, HS⟩ := hrel
    have hw := wide_take l k
    by_cases h : k < l.length
    · have HL := Lib.hid (lists_take_succ l k h)
      have hw1 := wide_take_succ l k h
      have hw2 := wide_take l (k + 1)
      have HW := Lib.hid hw1
      have hbx : s.size + 1 + (l[k]'h).size ≤ wide (l.take (k + 1)) := by omega
      obtain ⟨b, o, c, e, _, _, hcell⟩ := HP.out.posS (by omega)
      simp only [Value.slice.injEq] at e
      obtain ⟨rfl, _, rfl⟩ := e
      have hck := hcell k h
      have HBX := Lib.hid hbx
      clear hcell hw1
      by_cases hk0 : 0 < k
      · have hk1 : (0 : Int) < (k : Int) := by omega
        have hs1 : s.size + 1 ≤ 700000000 := by omega
        have HN : Hid (¬ lists (l.take k) = []) := Lib.hid (fun e => by
          have := congrArg List.length e
          simp only [lists, List.length_map, List.length_take, List.length_nil] at this
          omega)
        go_wp2
        go_round
        case rel =>
          refine ⟨k + 1, _, by go_num, by omega, rfl, ?_, Lib.hid ?_⟩
          · have := HBX.out; rw [ByteArray.size_append, ByteArray.size_append, show ({ data := #[44] } : ByteArray).size = 1 from rfl]; exact this
          · rw [app_list, comma_app, HL.out, join_snoc, if_neg HN.out, HS.out]
        case measure => simp [intOf]; omega
      · have hk1 : ¬ (0 : Int) < (k : Int) := by omega
        have HN : Hid (lists (l.take k) = []) := Lib.hid (by
          have : k = 0 := by omega
          subst this; rfl)
        have hs1 : s.size + (l[k]'h).size ≤ 700000000 := by omega
        go_wp2
        go_round
        case rel =>
          refine ⟨k + 1, _, by go_num, by omega, rfl, ?_, Lib.hid ?_⟩
          · have := HBX.out; rw [ByteArray.size_append]; omega
          · rw [app_list, HL.out, join_snoc, if_pos HN.out, HS.out, HN.out, Lib.join_nil, List.nil_append]
        case measure => simp [intOf]; omega
    · have HE : Hid (s.toList = Lib.join (lists l) [44]) := Lib.hid (by rw [HS.out, List.take_of_length_le (by omega)])
      go_wp2_with fail
      refine (rtext_any s _ (by omega)).mono ?_
      rintro e w2 ⟨v2, rfl, ho, hk2⟩
      have HO := Lib.hid ho
      clear ho
      go_wp2
      go_ret
      refine ⟨v2, rfl, ?_, hk2⟩
      unfold encNames
      rw [← HE.out]
      exact HO.out

theorem flat_succ (ls : List (List UInt8)) (k : Nat) (h : k < ls.length) : (ls.take (k + 1)).flatten = (ls.take k).flatten ++ ls[k]'h := by
  rw [List.take_succ_eq_append_getElem h]
  simp only [List.flatten_append, List.flatten_cons, List.flatten_nil, List.append_nil]
theorem flat_le (ls : List (List UInt8)) (k : Nat) (h : k < ls.length) : (ls.take k).flatten.length + (ls[k]'h).length ≤ ls.flatten.length := by
  have e : ls = ls.take (k + 1) ++ ls.drop (k + 1) := (List.take_append_drop _ _).symm
  have h2 : ls.flatten.length = (ls.take (k + 1)).flatten.length + (ls.drop (k + 1)).flatten.length := by
    conv => lhs; rw [e, List.flatten_append, List.length_append]
  rw [h2, flat_succ ls k h, List.length_append]
  omega
/-- Each of the slices reads as its list. -/
def AllRd (w : World) (vs : List Value) (ls : List (List UInt8)) : Prop := vs.length = ls.length ∧ ∀ i (h : i < vs.length) (h2 : i < ls.length), Rd w (vs[i]'h) (bys (ls[i]'h2))

theorem AllRd.nil (w : World) : AllRd w [] [] := ⟨rfl, fun i h => by simp at h⟩
theorem AllRd.cons {w : World} {v : Value} {l : List UInt8} {vs : List Value} {ls : List (List UInt8)} (h : Rd w v (bys l)) (h2 : AllRd w vs ls) : AllRd w (v :: vs) (l :: ls) := by
  refine ⟨by simp [h2.1], fun i h3 h4 => ?_⟩
  cases i with
  | zero => exact h
  | succ i => exact h2.2 i (by simpa using h3) (by simpa using h4)
theorem AllRd.slices {w : World} {vs : List Value} {ls : List (List UInt8)} (h : AllRd w vs ls) : ∀ v ∈ vs, ∃ a n c, v = .slice a n c := by
  intro v hv
  obtain ⟨i, hi, rfl⟩ := List.getElem_of_mem hv
  obtain ⟨ao, cap, e, _⟩ := h.2 i hi (by have := h.1; omega)
  exact ⟨_, _, _, e⟩

set_option maxHeartbeats 1000000 in
theorem rjoin_any (p : Value) (vs : List Value) (ls : List (List UInt8)) (w : World) (hp : Rd w p vs) (ha : AllRd w vs ls) (hl : ls.flatten.length ≤ 600000000) :
    Calls Try.prog 11 #[p] w fun e w' => ∃ v', e = .returned v' ∧ Own w.heap.size 5 w' v' (bys ls.flatten) ∧ Kp0 w w' := by
  have HP := Lib.hid hp
  have HA := Lib.hid ha
  have hsl := ha.slices
  have HSL := Lib.hid hsl
  obtain ⟨bo, cap2, rfl, h4, h5, h6⟩ := hp.shape
  unfold maxLen at h5
  clear hp ha hsl
  go_enter Try.func11, Try.ntmps11
  go_wp2
  go_loopw [3, 4] (fun t i wr => ∃ k : Nat, i = .int .i64 k ∧ k ≤ vs.length ∧ Own w.heap.size 5 wr t (bys (ls.take k).flatten) ∧ Kp (fun b => w.heap.size ≤ b) w wr) (fun _ i _ => vs.length - (intOf i).toNat)
  case atStart => exact ⟨0, rfl, Nat.zero_le _, Own.nil _ _ _, Kp.refl _ _⟩
  case round =>
    obtain ⟨k, rfl, hk, ho, hkp⟩ := hrel
    by_cases h : k < vs.length
    · have h2 : k < ls.length := by have := HA.out.1; omega
      have HR := Lib.hid ((HA.out.2 k h h2).keep hkp (fun b _ h1 (h3 : w.heap.size ≤ b) => by omega))
      obtain ⟨b, o, c, e, _, _, hcell⟩ := HP.out.pos (by omega)
      simp only [Value.slice.injEq] at e
      obtain ⟨rfl, _, rfl⟩ := e
      have hck := hkp.cell (hcell k h) (fun (h3 : w.heap.size ≤ b) => by have := World.block_lt_of_cell? w _ (hcell k h); simp at this; omega)
      obtain ⟨a1, n1, c1, e1⟩ := HSL.out _ (List.getElem_mem h)
      have hlen : (ls.take k).flatten.length + (ls[k]'h2).length ≤ ls.flatten.length := flat_le ls k h2
      have hfl := Lib.hid (flat_succ ls k h2)
      have HO := Lib.hid ho
      have HK := Lib.hid hkp
      have hbs := hkp.size
      rw [e1] at hck HR
      clear hcell e1 ho hkp
      go_wp2_with (at_builtin; refine wl_append_own rfl _ _ 22 rfl Try.underlying22 infoU8 rfl rfl rfl HO.out HR.out (bys_one _) (by rw [bys_len, bys_len]; unfold maxLen; omega) (by rw [bys_len, bys_len]; omega) hbs ?_)
      intro v' w' ho' hg
      have hlt := HO.out.lt
      have HO' : Hid (Own w.heap.size 5 w' v' (bys (ls.take (k + 1)).flatten)) := Lib.hid (by rw [hfl.out, bys_app]; exact ho')
      have HK' := Lib.hid (HK.out.grown hg (fun k hk1 hk2 => (hlt k hk1).1))
      clear ho' hg hlt hck
      go_wp2
      go_roundw
      case rel => exact ⟨k + 1, by go_num, by omega, HO'.out, HK'.out⟩
      case measure => simp [intOf]; omega
    · have e0 : Hid ((ls.take k).flatten = ls.flatten) := Lib.hid (by rw [List.take_of_length_le (by have := HA.out.1; omega)])
      have HO := Lib.hid ho
      have HK := Lib.hid hkp
      clear ho hkp
      go_wp2
      go_ret
      exact ⟨_, rfl, by rw [← e0.out]; exact HO.out, HK.out.mono (fun i hi h => by omega)⟩
end Go.Proofs.Ytigghfbochemgaa
