/- Names and Join: the code's and the document's. -/
import Derived.Test.YtcmflkcnekoccaaRef
namespace Go.Proofs.Ytcmflkcnekoccaa
open Go Go.RowKit

def lists (l : List ByteArray) : List (List UInt8) := l.map fun x => x.toList
def encNames (l : List ByteArray) : List UInt8 := encText (Lib.join (lists l) [44])
theorem lists_data (l : List ByteArray) : (l.map (·.data.toList)) = lists l := by
  unfold lists; exact List.map_congr_left (fun x _ => (ByteArray.toList_eq x).symm)
theorem comma_list : ({ data := #[44] } : ByteArray).data.toList = [44] := rfl
/-- An upper bound of the joined length. -/
def wide (l : List ByteArray) : Nat := (l.map fun x => x.size + 1).sum
theorem wide_cons (x : ByteArray) (l : List ByteArray) : wide (x :: l) = x.size + 1 + wide l := by simp [wide]
theorem wide_take (l : List ByteArray) (k : Nat) : wide (l.take k) ≤ wide l := by
  induction l generalizing k with
  | nil => simp
  | cons x l ih => cases k with
    | zero => simp [wide]
    | succ k => rw [List.take_succ_cons, wide_cons, wide_cons]; have := ih k; omega
theorem join_snoc (l : List (List UInt8)) (x : List UInt8) : Lib.join (l ++ [x]) [44] = if l = [] then x else Lib.join l [44] ++ [44] ++ x := by
  cases l with
  | nil => simp [Lib.join_one]
  | cons y l => rw [List.cons_append, Lib.join_cons, Lib.join_cons, if_neg (by simp)]; simp [Lib.joinTail]
theorem wide_snoc (l : List ByteArray) (x : ByteArray) : wide (l ++ [x]) = wide l + (x.size + 1) := by simp [wide]
theorem join_wide (l : List ByteArray) : (Lib.join (lists l) [44]).length ≤ wide l := by
  cases l with
  | nil => simp [lists, Lib.join_nil]
  | cons x l =>
    unfold lists
    rw [List.map_cons, Lib.join_length, wide_cons]
    have h : ∀ m : List ByteArray, Lib.lens (m.map fun y => y.toList) + m.length = wide m := by
      intro m
      induction m with
      | nil => rfl
      | cons y m ih =>
        rw [wide_cons, ← ih]
        simp [Lib.lens, size_toList]
        omega
    have h2 := h (x :: l)
    rw [List.map_cons, wide_cons] at h2
    simp at h2 ⊢
    omega

theorem join_any (v : Value) (l : List ByteArray) (w : World) (hv : Rd w v (strs l)) (hl : wide l ≤ 700000000) :
    Calls Try.prog 22 #[v, .string { data := #[44] }] w fun e w' => ∃ s, e = .returned (.string s) ∧ s.toList = Lib.join (lists l) [44] ∧ Kp0 w w' := by
  by_cases hp : 0 < l.length
  · obtain ⟨b, o, cap, rfl, h1, h2, hc⟩ := hv.posS hp
    have hle : l.length ≤ wide l := by
      clear hp hc h1 hv hl
      induction l with
      | nil => simp
      | cons x l ih => rw [wide_cons, List.length_cons]; omega
    refine (Try.strings_Join b o cap l _ w (fun j x hj => by
      have := (List.getElem?_eq_some_iff.1 hj)
      rw [hc j this.1, this.2]) (World.block_lt_of_cell? w _ (hc 0 hp)) (by omega) h1 (by
        rw [lists_data, comma_list]; have := join_wide l; omega)).mono ?_
    rintro e w' ⟨rfl, hb⟩
    refine ⟨_, rfl, ?_, (Kp.of_below hb).mono (fun i hi h => by omega)⟩
    rw [ByteArray.toList_mk, lists_data, comma_list]
  · obtain ⟨ao, cap, rfl, _, _, _⟩ := hv.shapeS
    have e0 : l = [] := List.eq_nil_of_length_eq_zero (by omega)
    subst e0
    refine (Try.strings_Join_none ao cap _ w).mono ?_
    rintro e w' ⟨rfl, rfl⟩
    exact ⟨_, rfl, nil_toList, Kp.refl _ _⟩

set_option maxHeartbeats 400000 in
theorem names_any (v p : Value) (xs : List UInt8) (l : List ByteArray) (w : World) (hv : Rd w v (bys xs)) (hp : Rd w p (strs l)) (hl : xs.length + wide l ≤ 600000000) :
    Calls Try.prog 9 #[v, p] w fun e w' => ∃ v', e = .returned v' ∧ Own w.heap.size 5 w' v' (bys (xs ++ encNames l)) ∧ Kp0 w w' := by
  have HV := Lib.hid hv
  have HP := Lib.hid hp
  clear hv hp
  go_enter Try.func9, Try.ntmps9
  go_wp2_with fail
  refine (join_any p l _ HP.out (by omega)).mono ?_
  rintro e w1 ⟨s, rfl, hs, hk⟩
  have hsz : s.size ≤ wide l := by rw [← size_toList, hs]; exact join_wide l
  have HS := Lib.hid hs
  clear hs
  go_wp2_with fail
  refine (text_any v xs s _ (HV.out.keep0 hk) (by omega)).mono ?_
  rintro e w2 ⟨v2, rfl, ho, hk2⟩
  have HO := Lib.hid ho
  have hsz2 := hk.size
  clear ho
  go_wp2
  go_ret
  refine ⟨v2, rfl, ?_, hk.tr hk2⟩
  unfold encNames
  rw [← HS.out]
  exact HO.out.base hsz2

theorem comma_app (s : ByteArray) : (s ++ ({ data := #[44] } : ByteArray)).toList = s.toList ++ [44] := by
  obtain ⟨l, rfl⟩ : ∃ l : List UInt8, s = ⟨l.toArray⟩ := ⟨s.toList, str_mk s⟩
  have : ({ data := #[44] } : ByteArray) = { data := [44].toArray } := rfl
  rw [this, ByteArray.mk_append_mk, ByteArray.toList_mk, ByteArray.toList_mk]
theorem app_list (s t : ByteArray) : (s ++ t).toList = s.toList ++ t.toList := by
  obtain ⟨l, rfl⟩ : ∃ l : List UInt8, s = ⟨l.toArray⟩ := ⟨s.toList, str_mk s⟩
  obtain ⟨m, rfl⟩ : ∃ m : List UInt8, t = ⟨m.toArray⟩ := ⟨t.toList, str_mk t⟩
  rw [ByteArray.mk_append_mk, ByteArray.toList_mk, ByteArray.toList_mk, ByteArray.toList_mk]
theorem lists_take_succ (l : List ByteArray) (k : Nat) (h : k < l.length) : lists (l.take (k + 1)) = lists (l.take k) ++ [(l[k]'h).toList] := by
  unfold lists
  rw [List.take_succ_eq_append_getElem h, List.map_append]; rfl
theorem wide_take_succ (l : List ByteArray) (k : Nat) (h : k < l.length) : wide (l.take (k + 1)) = wide (l.take k) + ((l[k]'h).size + 1) := by
  rw [List.take_succ_eq_append_getElem h, wide_snoc]

set_option maxHeartbeats 1000000 in
theorem rnames_any (p : Value) (l : List ByteArray) (w : World) (hp : Rd w p (strs l)) (hl : wide l ≤ 600000000) :
    Calls Try.prog 13 #[p] w fun e w' => ∃ v', e = .returned v' ∧ Own w.heap.size 5 w' v' (bys (encNames l)) ∧ Kp0 w w' := by
  have HP := Lib.hid hp
  obtain ⟨bo, cap2, rfl, h4, h5, h6⟩ := hp.shapeS
  clear hp
  go_enter Try.func13, Try.ntmps13
  go_wp2
  go_loop [3, 4] (fun t i => ∃ (k : Nat) (s : ByteArray), i = .int .i64 k ∧ k ≤ l.length ∧ t = .string s ∧ s.size ≤ wide (l.take k) ∧ Hid (s.toList = Lib.join (lists (l.take k)) [44])) (fun _ i => l.length - (intOf i).toNat)
  case atStart => exact ⟨0, { data := #[] }, rfl, Nat.zero_le _, rfl, Nat.zero_le _, Lib.hid (by rw [nil_toList]; rfl)⟩
  case round =>
    obtain ⟨k, s, rfl, hk, rfl, hsz, HS⟩ := hrel
    have hw := wide_take l k
    by_cases h : k < l.length
    · have HL := Lib.hid (lists_take_succ l k h)
      have hw1 := wide_take_succ l k h
      have hw2 := wide_take l (k + 1)
      have HW := Lib.hid hw1
      have hbx : s.size + 1 + (l[k]'h).size ≤ wide (l.take (k + 1)) := by omega
      obtain ⟨b, o, c, e, _, _, hcell⟩ := HP.out.posS (by omega)
      simp only [Value.slice.injEq] at e
      obtain ⟨rfl, _, rfl⟩ := e
      have hck := hcell k h
      have HBX := Lib.hid hbx
      clear hcell hw1
      by_cases hk0 : 0 < k
      · have hk1 : (0 : Int) < (k : Int) := by omega
        have hs1 : s.size + 1 ≤ 700000000 := by omega
        have HN : Hid (¬ lists (l.take k) = []) := Lib.hid (fun e => by
          have := congrArg List.length e
          simp only [lists, List.length_map, List.length_take, List.length_nil] at this
          omega)
        go_wp2
        go_round
        case rel =>
          refine ⟨k + 1, _, by go_num, by omega, rfl, ?_, Lib.hid ?_⟩
          · have := HBX.out; rw [ByteArray.size_append, ByteArray.size_append, show ({ data := #[44] } : ByteArray).size = 1 from rfl]; exact this
          · rw [app_list, comma_app, HL.out, join_snoc, if_neg HN.out, HS.out]
        case measure => simp [intOf]; omega
      · have hk1 : ¬ (0 : Int) < (k : Int) := by omega
        have HN : Hid (lists (l.take k) = []) := Lib.hid (by
          have : k = 0 := by omega
          subst this; rfl)
        have hs1 : s.size + (l[k]'h).size ≤ 700000000 := by omega
        go_wp2
        go_round
        case rel =>
          refine ⟨k + 1, _, by go_num, by omega, rfl, ?_, Lib.hid ?_⟩
          · have := HBX.out; rw [ByteArray.size_append]; omega
          · rw [app_list, HL.out, join_snoc, if_pos HN.out, HS.out, HN.out, Lib.join_nil, List.nil_append]
        case measure => simp [intOf]; omega
    · have HE : Hid (s.toList = Lib.join (lists l) [44]) := Lib.hid (by rw [HS.out, List.take_of_length_le (by omega)])
      go_wp2_with fail
      refine (rtext_any s _ (by omega)).mono ?_
      rintro e w2 ⟨v2, rfl, ho, hk2⟩
      have HO := Lib.hid ho
      clear ho
      go_wp2
      go_ret
      refine ⟨v2, rfl, ?_, hk2⟩
      unfold encNames
      rw [← HE.out]
      exact HO.out

theorem flat_succ (ls : List (List UInt8)) (k : Nat) (h : k < ls.length) : (ls.take (k + 1)).flatten = (ls.take k).flatten ++ ls[k]'h := by
  rw [List.take_succ_eq_append_getElem h]
  simp only [List.flatten_append, List.flatten_cons, List.flatten_nil, List.append_nil]
theorem flat_le (ls : List (List UInt8)) (k : Nat) (h : k < ls.length) : (ls.take k).flatten.length + (ls[k]'h).length ≤ ls.flatten.length := by
  have e : ls = ls.take (k + 1) ++ ls.drop (k + 1) := (List.take_append_drop _ _).symm
  have h2 : ls.flatten.length = (ls.take (k + 1)).flatten.length + (ls.drop (k + 1)).flatten.length := by
    conv => lhs; rw [e, List.flatten_append, List.length_append]
  rw [h2, flat_succ ls k h, List.length_append]
  omega
/-- Each of the slices reads as its list. -/
def AllRd (w : World) (vs : List Value) (ls : List (List UInt8)) : Prop := vs.length = ls.length ∧ ∀ i (h : i < vs.length) (h2 : i < ls.length), Rd w (vs[i]'h) (bys (ls[i]'h2))

theorem AllRd.nil (w : World) : AllRd w [] [] := ⟨rfl, fun i h => by simp at h⟩
theorem AllRd.cons {w : World} {v : Value} {l : List UInt8} {vs : List Value} {ls : List (List UInt8)} (h : Rd w v (bys l)) (h2 : AllRd w vs ls) : AllRd w (v :: vs) (l :: ls) := by
  refine ⟨by simp [h2.1], fun i h3 h4 => ?_⟩
  cases i with
  | zero => exact h
  | succ i => exact h2.2 i (by simpa using h3) (by simpa using h4)
theorem AllRd.slices {w : World} {vs : List Value} {ls : List (List UInt8)} (h : AllRd w vs ls) : ∀ v ∈ vs, ∃ a n c, v = .slice a n c := by
  intro v hv
  obtain ⟨i, hi, rfl⟩ := List.getElem_of_mem hv
  obtain ⟨ao, cap, e, _⟩ := h.2 i hi (by have := h.1; omega)
  exact ⟨_, _, _, e⟩

set_option maxHeartbeats 1000000 in
theorem rjoin_any (p : Value) (vs : List Value) (ls : List (List UInt8)) (w : World) (hp : Rd w p vs) (ha : AllRd w vs ls) (hl : ls.flatten.length ≤ 600000000) :
    Calls Try.prog 11 #[p] w fun e w' => ∃ v', e = .returned v' ∧ Own w.heap.size 5 w' v' (bys ls.flatten) ∧ Kp0 w w' := by
  have HP := Lib.hid hp
  have HA := Lib.hid ha
  have hsl := ha.slices
  have HSL := Lib.hid hsl
  obtain ⟨bo, cap2, rfl, h4, h5, h6⟩ := hp.shape
  unfold maxLen at h5
  clear hp ha hsl
  go_enter Try.func11, Try.ntmps11
  go_wp2
  go_loopw [3, 4] (fun t i wr => ∃ k : Nat, i = .int .i64 k ∧ k ≤ vs.length ∧ Own w.heap.size 5 wr t (bys (ls.take k).flatten) ∧ Kp (fun b => w.heap.size ≤ b) w wr) (fun _ i _ => vs.length - (intOf i).toNat)
  case atStart => exact ⟨0, rfl, Nat.zero_le _, Own.nil _ _ _, Kp.refl _ _⟩
  case round =>
    obtain ⟨k, rfl, hk, ho, hkp⟩ := hrel
    by_cases h : k < vs.length
    · have h2 : k < ls.length := by have := HA.out.1; omega
      have HR := Lib.hid ((HA.out.2 k h h2).keep hkp (fun b _ h1 (h3 : w.heap.size ≤ b) => by omega))
      obtain ⟨b, o, c, e, _, _, hcell⟩ := HP.out.pos (by omega)
      simp only [Value.slice.injEq] at e
      obtain ⟨rfl, _, rfl⟩ := e
      have hck := hkp.cell (hcell k h) (fun (h3 : w.heap.size ≤ b) => by have := World.block_lt_of_cell? w _ (hcell k h); simp at this; omega)
      obtain ⟨a1, n1, c1, e1⟩ := HSL.out _ (List.getElem_mem h)
      have hlen : (ls.take k).flatten.length + (ls[k]'h2).length ≤ ls.flatten.length := flat_le ls k h2
      have hfl := Lib.hid (flat_succ ls k h2)
      have HO := Lib.hid ho
      have HK := Lib.hid hkp
      have hbs := hkp.size
      rw [e1] at hck HR
      clear hcell e1 ho hkp
      go_wp2_with (at_builtin; refine wl_append_own rfl _ _ 22 rfl Try.underlying22 infoU8 rfl rfl rfl HO.out HR.out (bys_one _) (by rw [bys_len, bys_len]; unfold maxLen; omega) (by rw [bys_len, bys_len]; omega) hbs ?_)
      intro v' w' ho' hg
      have hlt := HO.out.lt
      have HO' : Hid (Own w.heap.size 5 w' v' (bys (ls.take (k + 1)).flatten)) := Lib.hid (by rw [hfl.out, bys_app]; exact ho')
      have HK' := Lib.hid (HK.out.grown hg (fun k hk1 hk2 => (hlt k hk1).1))
      clear ho' hg hlt hck
      go_wp2
      go_roundw
      case rel => exact ⟨k + 1, by go_num, by omega, HO'.out, HK'.out⟩
      case measure => simp [intOf]; omega
    · have e0 : Hid ((ls.take k).flatten = ls.flatten) := Lib.hid (by rw [List.take_of_length_le (by have := HA.out.1; omega)])
      have HO := Lib.hid ho
      have HK := Lib.hid hkp
      clear ho hkp
      go_wp2
      go_ret
      exact ⟨_, rfl, by rw [← e0.out]; exact HO.out, HK.out.mono (fun i hi h => by omega)⟩
end Go.Proofs.Ytcmflkcnekoccaa
