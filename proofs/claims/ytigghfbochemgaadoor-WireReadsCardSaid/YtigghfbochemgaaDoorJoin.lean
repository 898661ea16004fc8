/- Names: the code's. -/
import Derived.Test.YtigghfbochemgaaDoorWire
import Derived.Test.YtigghfbochemgaaDoorShelf
namespace Go.Proofs.YtigghfbochemgaaDoor
open Go Go.RowKit

def lists (l : List ByteArray) : List (List UInt8) := l.map fun x => x.toList
def encNames (l : List ByteArray) : List UInt8 := encText (Lib.join (lists l) [44])
theorem lists_data (l : List ByteArray) : (l.map (·.data.toList)) = lists l := by
  unfold lists; exact List.map_congr_left (fun x _ => (ByteArray.toList_eq x).symm)
theorem comma_list : ({ data := #[44] } : ByteArray).data.toList = [44] := rfl
/-- An upper bound of the joined length. -/
def wide (l : List ByteArray) : Nat := (l.map fun x => x.size + 1).sum
theorem wide_cons (x : ByteArray) (l : List ByteArray) : wide (x :: l) = x.size + 1 + wide l := by simp [wide]
theorem wide_take (l : List ByteArray) (k : Nat) : wide (l.take k) ≤ wide l := by
  induction l generalizing k with
  | nil => simp
  | cons x l ih => cases k with
    | zero => simp [wide]
    | succ k => rw [List.take_succ_cons, wide_cons, wide_cons]; have := ih k; omega
theorem join_snoc (l : List (List UInt8)) (x : List UInt8) : Lib.join (l ++ [x]) [44] = if l = [] then x else Lib.join l [44] ++ [44] ++ x := by
  cases l with
  | nil => simp [Lib.join_one]
  | cons y l => rw [List.cons_append, Lib.join_cons, Lib.join_cons, if_neg (by simp)]; simp [Lib.joinTail]
theorem wide_snoc (l : List ByteArray) (x : ByteArray) : wide (l ++ [x]) = wide l + (x.size + 1) := by simp [wide]
theorem join_wide (l : List ByteArray) : (Lib.join (lists l) [44]).length ≤ wide l := by
  cases l with
  | nil => simp [lists, Lib.join_nil]
  | cons x l =>
    unfold lists
    rw [List.map_cons, Lib.join_length, wide_cons]
    have h : ∀ m : List ByteArray, Lib.lens (m.map fun y => y.toList) + m.length = wide m := by
      intro m
      induction m with
      | nil => rfl
      | cons y m ih =>
        rw [wide_cons, ← ih]
        simp [Lib.lens, size_toList]
        omega
    have h2 := h (x :: l)
    rw [List.map_cons, wide_cons] at h2
    simp at h2 ⊢
    omega

theorem join_any (v : Value) (l : List ByteArray) (w : World) (hv : Rd w v (strs l)) (hl : wide l ≤ 700000000) :
    Calls Tryd.prog 34 #[v, .string { data := #[44] }] w fun e w' => ∃ s, e = .returned (.string s) ∧ s.toList = Lib.join (lists l) [44] ∧ Kp0 w w' := by
  by_cases hp : 0 < l.length
  · obtain ⟨b, o, cap, rfl, h1, h2, hc⟩ := hv.posS hp
    have hle : l.length ≤ wide l := by
      clear hp hc h1 hv hl
      induction l with
      | nil => simp
      | cons x l ih => rw [wide_cons, List.length_cons]; omega
    refine (Tryd.strings_Join b o cap l _ w (fun j x hj => by
      have := (List.getElem?_eq_some_iff.1 hj)
      rw [hc j this.1, this.2]) (World.block_lt_of_cell? w _ (hc 0 hp)) (by omega) h1 (by
        rw [lists_data, comma_list]; have := join_wide l; omega)).mono ?_
    rintro e w' ⟨rfl, hb⟩
    refine ⟨_, rfl, ?_, (Kp.of_below hb).mono (fun i hi h => by omega)⟩
    rw [ByteArray.toList_mk, lists_data, comma_list]
  · obtain ⟨ao, cap, rfl, _, _, _⟩ := hv.shapeS
    have e0 : l = [] := List.eq_nil_of_length_eq_zero (by omega)
    subst e0
    refine (Tryd.strings_Join_none ao cap _ w).mono ?_
    rintro e w' ⟨rfl, rfl⟩
    exact ⟨_, rfl, nil_toList, Kp.refl _ _⟩

set_option maxHeartbeats 400000 in
theorem names_any (v p : Value) (xs : List UInt8) (l : List ByteArray) (w : World) (hv : Rd w v (bys xs)) (hp : Rd w p (strs l)) (hl : xs.length + wide l ≤ 600000000) :
    Calls Tryd.prog 26 #[v, p] w fun e w' => ∃ v', e = .returned v' ∧ Own w.heap.size 5 w' v' (bys (xs ++ encNames l)) ∧ Kp0 w w' := by
  have HV := Lib.hid hv
  have HP := Lib.hid hp
  clear hv hp
  go_enter Tryd.func26, Tryd.ntmps26
  go_wp2_with fail
  refine (join_any p l _ HP.out (by omega)).mono ?_
  rintro e w1 ⟨s, rfl, hs, hk⟩
  have hsz : s.size ≤ wide l := by rw [← size_toList, hs]; exact join_wide l
  have HS := Lib.hid hs
  clear hs
  go_wp2_with fail
  refine (text_any v xs s _ (HV.out.keep0 hk) (by omega)).mono ?_
  rintro e w2 ⟨v2, rfl, ho, hk2⟩
  have HO := Lib.hid ho
  have hsz2 := hk.size
  clear ho
  go_wp2
  go_ret
  refine ⟨v2, rfl, ?_, hk.tr hk2⟩
  unfold encNames
  rw [← HS.out]
  exact HO.out.base hsz2

theorem comma_app (s : ByteArray) : (s ++ ({ data := #[44] } : ByteArray)).toList = s.toList ++ [44] := by
  obtain ⟨l, rfl⟩ : ∃ l : List UInt8, s = ⟨l.toArray⟩ := ⟨s.toList, str_mk s⟩
  have : ({ data := #[44] } : ByteArray) = { data := [44].toArray } := rfl
  rw [this, ByteArray.mk_append_mk, ByteArray.toList_mk, ByteArray.toList_mk]
theorem app_list (s t : ByteArray) : (s ++ t).toList = s.toList ++ t.toList := by
  obtain ⟨l, rfl⟩ : ∃ l : List UInt8, s = ⟨l.toArray⟩ := ⟨s.toList, str_mk s⟩
  obtain ⟨m, rfl⟩ : ∃ m : List UInt8, t = ⟨m.toArray⟩ := ⟨t.toList, str_mk t⟩
  rw [ByteArray.mk_append_mk, ByteArray.toList_mk, ByteArray.toList_mk, ByteArray.toList_mk]
theorem lists_take_succ (l : List ByteArray) (k : Nat) (h : k < l.length) : lists (l.take (k + 1)) = lists (l.take k) ++ [(l[k]'h).toList] := by
  unfold lists
  rw [List.take_succ_eq_append_getElem h, List.map_append]; rfl
theorem wide_take_succ (l : List ByteArray) (k : Nat) (h : k < l.length) : wide (l.take (k + 1)) = wide (l.take k) + ((l[k]'h).size + 1) := by
  rw [List.take_succ_eq_append_getElem h, wide_snoc]

end Go.Proofs.YtigghfbochemgaaDoor
