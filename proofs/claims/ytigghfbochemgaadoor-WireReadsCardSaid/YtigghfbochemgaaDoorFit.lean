/- The laws' own opening, and what reading gives of what was written. -/
import Derived.Test.YtigghfbochemgaaDoorRead
namespace Go.Proofs.YtigghfbochemgaaDoor
open Go Go.RowKit

theorem ab_list : ({ data := #[97, 98] } : ByteArray).toList = [97, 98] := by rw [ByteArray.toList_eq]
theorem fit_any (w : World) :
    Calls Tryd.prog 6 #[] w fun e w' => e = .returned (.bool true) ∧ Kp0 w w' := by
  go_enter Tryd.func6, Tryd.ntmps6
  go_wp2_with fail
  have hr := Rd.lit w #[Value.int .u8 128] 5 (0, 0) 1 rfl (by decide)
  refine (int_any _ _ [] [128] _ (Rd.nil _) hr (by simp)).mono ?_
  rintro e w1 ⟨v1, rfl, ho1, hk1⟩
  have HO1 := Lib.hid ho1
  clear ho1 hr
  go_wp2_with fail
  refine (text_any _ _ _ _ HO1.out.rd (by decide)).mono ?_
  rintro e w2 ⟨v2, rfl, ho2, hk2⟩
  have HO2 := Lib.hid ho2
  clear ho2
  go_wp2_with fail
  refine (from_any _ _ _ HO2.out.rd).mono ?_
  rintro e w3 ⟨b, rfl, hb, hr3, hk3⟩
  rw [ab_list, show ([] ++ encInt [128] ++ encText [97, 98] : List UInt8) = [0, 0, 0, 2, 0, 128, 0, 0, 0, 2, 97, 98] from rfl] at hr3
  have HR3 := Lib.hid hr3
  clear hr3
  go_wp2_with fail
  refine (int_rs b _ _ HR3.out).mono ?_
  rintro e w4 ⟨v4, rfl, hd4, hr4, hk4, hg4⟩
  rw [show intS (some [0, 0, 0, 2, 0, 128, 0, 0, 0, 2, 97, 98]) = ([128], some [0, 0, 0, 2, 97, 98]) from rfl] at hd4 hr4
  have HR4 := Lib.hid hr4
  obtain ⟨g, og, cap, rfl, hc1, hc2, hcell⟩ := hd4.posB (by decide)
  have c0 := hcell 0 (by decide)
  simp only [Nat.add_zero, List.getElem_cons_zero] at c0
  clear hr4 hd4 hcell hg4
  go_wp2_with fail
  refine (text_rs b _ _ HR4.out).mono ?_
  rintro e w5 ⟨t5, rfl, ht5, hr5, hk5⟩
  rw [show textS (some [0, 0, 0, 2, 97, 98]) = ([97, 98], some []) from rfl] at ht5 hr5
  have HR5 := Lib.hid hr5
  clear hr5
  go_wp2_with fail
  refine (end_rs b _ _ HR5.out).mono ?_
  rintro e w6 ⟨rfl, rfl⟩
  go_wp2
  go_ret
  refine ⟨rfl, ?_⟩
  have s2 := hk2.size
  have s1 := hk1.size
  simp at s1
  exact ((((((Kp.refl _ w).alloc _).tr hk1).tr hk2).tr hk3).trans hk4 (fun _ _ h => h) (fun i hi (h : i = b) => by omega)).trans hk5 (fun _ _ h => h) (fun i hi (h : i = b) => by omega)

theorem stripZ_zeros (z : Nat) (l : List UInt8) : stripZ (List.replicate z 0 ++ l) = stripZ l := by
  induction z with
  | zero => rfl
  | succ z ih =>
    rw [List.replicate_succ, List.cons_append]
    conv => lhs; unfold stripZ
    exact (if_pos rfl).trans ih
theorem stripZ_idem (l : List UInt8) : stripZ (stripZ l) = stripZ l := by
  induction l with
  | nil => rfl
  | cons c l ih =>
    by_cases h : c = 0
    · have : stripZ (c :: l) = stripZ l := by conv => lhs; unfold stripZ; rw [if_pos h]
      rw [this, ih]
    · have : stripZ (c :: l) = c :: l := by conv => lhs; unfold stripZ; rw [if_neg h]
      rw [this, this]
theorem stripZ_head (l : List UInt8) : stripZ l = [] ∨ ∃ c t, stripZ l = c :: t ∧ ¬ c = 0 := by
  induction l with
  | nil => exact .inl rfl
  | cons c l ih =>
    by_cases h : c = 0
    · have : stripZ (c :: l) = stripZ l := by conv => lhs; unfold stripZ; rw [if_pos h]
      rw [this]; exact ih
    · have : stripZ (c :: l) = c :: l := by conv => lhs; unfold stripZ; rw [if_neg h]
      rw [this]; exact .inr ⟨c, l, rfl, h⟩
theorem be4_len (n : Nat) : (be4 n).length = 4 := rfl
theorem beNat_be4 (n : Nat) (h : n < 4294967296) : beNat (be4 n) = n := by
  have e : ∀ k : Nat, (UInt8.ofNat k).toNat = k % 256 := fun k => by simp
  simp only [be4, beNat, e]
  omega
theorem takeS_app (a b : List UInt8) (n : Int) (h : n = (a.length : Int)) : takeS (some (a ++ b)) n = (a, some b) := by
  subst h
  simp [takeS]
  omega
theorem textS_enc (l r : List UInt8) (h : l.length ≤ 16384) : textS (some (encText l ++ r)) = (l, some r) := by
  have e : u32S (some (encText l ++ r)) = (l.length, some (l ++ r)) := by
    unfold u32S encText
    rw [List.append_assoc, takeS_app (be4 l.length) (l ++ r) 4 (by rw [be4_len]; rfl), beNat_be4 _ (by omega)]
  unfold textS
  rw [e, if_neg (by simp only []; omega)]
  exact takeS_app l r _ rfl
theorem intS_enc (l r : List UInt8) (h : l.length ≤ 16383) : intS (some (encInt l ++ r)) = (stripZ l, some r) := by
  have hl := stripZ_len l
  have hs : (signed (stripZ l)).length ≤ 16384 := by 
    unfold signed
    split
    · rw [List.length_cons]; omega
    · omega
  unfold intS encInt
  rw [textS_enc _ _ hs]
  simp only []
  rcases stripZ_head l with h0 | ⟨c, t, h0, hc⟩
  · rw [h0]; rfl
  · rw [h0]
    unfold signed
    by_cases hb : hiB (c :: t) = true
    · rw [if_pos hb, intP_c0 _ rfl rfl, if_pos hb]
    · rw [if_neg hb, intP_c1 _ rfl hc (by simpa using hb)]

end Go.Proofs.YtigghfbochemgaaDoor
