/- Package chans: messages. -/
import Derived.Test.YtbifdckmkogbgaaChM
import Derived.Test.YtbifdckmkogbgaaChG
namespace Go.Proofs.Ytbifdckmkogbgaa
open Go Go.RowKit
def MadeP (l : List UInt8) (w : World) (e : Ending) (w' : World) : Prop := ∃ v, e = .returned v ∧ Own w.heap.size 5 w' v (bys l) ∧ Kp0 w w'
theorem MadeP.of {l : List UInt8} {w w1 w' : World} {e : Ending} (h : MadeP l w1 e w') (hk : Kp0 w w1) : MadeP l w e w' := by
  obtain ⟨v, h1, h2, h3⟩ := h
  exact ⟨v, h1, h2.base hk.size, hk.tr h3⟩
theorem u32_i (v : Value) (xs : List UInt8) (m : Int) (k : Nat) (w : World) (hv : Rd w v (bys xs)) (hm : m = k) (hk : k < 4294967296) (hl : xs.length ≤ 900000000) :
    Calls Try.prog 39 #[v, .int .u32 m] w (MadeP (xs ++ be4 k) w) := by
  subst hm
  exact u32_any v xs k w hv hk hl
theorem one_byte {k : Int} {n : Nat} (hk : k = n) (hn : n < 256) : #[Value.int .u8 k].toList = bys [UInt8.ofNat n] := by
  have : (UInt8.ofNat n).toNat = n := by simp; omega
  simp only [bys, List.map_cons, List.map_nil, this, hk]
set_option maxHeartbeats 400000 in
theorem to_any (k m : Int) (n j : Nat) (w : World) (hk : k = n) (hn : n < 256) (hm : m = j) (hj : j < 4294967296) : Calls Try.prog 40 #[.int .u8 k, .int .u32 m] w (MadeP (toB n j) w) := by
  have hr := Rd.lit w #[Value.int .u8 k] 5 (0, 0) 1 rfl (by decide)
  rw [one_byte hk hn] at hr
  have HR := Lib.hid hr
  have HM := Lib.hid hm
  have HJ := Lib.hid hj
  clear hr hk hn hm hj
  go_enter Try.func40, Try.ntmps40
  go_wp2_with fail
  refine (u32_i _ _ m j _ HR.out HM.out HJ.out (by simp)).mono ?_
  rintro e w' h
  obtain ⟨v, rfl, ho, hk⟩ := h.of ((Kp.refl _ w).alloc _)
  go_wp2
  go_ret
  exact ⟨v, rfl, ho, hk⟩
theorem toB_len (n j : Nat) : (toB n j).length = 5 := rfl
set_option maxHeartbeats 400000 in
theorem data_any (m : Int) (j : Nat) (s : ByteArray) (w : World) (hm : m = j) (hj : j < 4294967296) (hs : s.size ≤ 100000000) : Calls Try.prog 41 #[.int .u32 m, .string s] w (MadeP (dataB j s.toList) w) := by
  have HM := Lib.hid hm
  have HJ := Lib.hid hj
  have HS := Lib.hid hs
  clear hm hj hs
  go_enter Try.func41, Try.ntmps41
  go_wp2_with fail
  refine (to_any _ m 94 j _ rfl (by decide) HM.out HJ.out).mono ?_
  rintro e w1 ⟨v1, rfl, ho1, hk1⟩
  have HO1 := Lib.hid ho1
  have HK1 := Lib.hid hk1
  clear ho1 hk1
  go_wp2_with fail
  refine (text_any v1 (toB 94 j) s _ HO1.out.rd (by rw [toB_len]; have := HS.out; omega)).mono ?_
  rintro e w2 ⟨v2, rfl, ho2, hk2⟩
  go_wp2
  go_ret
  exact ⟨v2, rfl, ho2.base HK1.out.size, HK1.out.tr hk2⟩
set_option maxHeartbeats 400000 in
theorem adjust_any (m n : Int) (j k : Nat) (w : World) (hm : m = j) (hj : j < 4294967296) (hn : n = k) (hk : k < 4294967296) : Calls Try.prog 30 #[.int .u32 m, .int .i64 n] w (MadeP (adjustB j k) w) := by
  have hcv : n % 4294967296 = n := by omega
  have HM := Lib.hid hm
  have HJ := Lib.hid hj
  have HN := Lib.hid hn
  have HK := Lib.hid hk
  have h1 : 0 ≤ n := by omega
  have h2 : n < 4294967296 := by omega
  clear hm hj hn hk hcv
  go_enter Try.func30, Try.ntmps30
  go_wp2_with fail
  refine (to_any _ m 93 j _ rfl (by decide) HM.out HJ.out).mono ?_
  rintro e w1 ⟨v1, rfl, ho1, hk1⟩
  have HO1 := Lib.hid ho1
  have HK1 := Lib.hid hk1
  clear ho1 hk1
  go_wp2_with fail
  refine (u32_i v1 (toB 93 j) _ k _ HO1.out.rd (by first | exact HN.out | (have := HN.out; omega)) HK.out (by rw [toB_len]; omega)).mono ?_
  rintro e w2 ⟨v2, rfl, ho2, hk2⟩
  go_wp2
  go_ret
  exact ⟨v2, rfl, ho2.base HK1.out.size, HK1.out.tr hk2⟩
set_option maxHeartbeats 400000 in
theorem bounds_any (v : Value) (xs : List UInt8) (w : World) (hv : Rd w v (bys xs)) (hl : xs.length ≤ 1000) : Calls Try.prog 37 #[v] w (MadeP (boundsB xs) w) := by
  have HV := Lib.hid hv
  clear hv
  go_enter Try.func37, Try.ntmps37
  go_wp2_with fail
  refine (u32_i v xs 0 0 _ HV.out rfl (by decide) (by omega)).mono ?_
  rintro e w1 ⟨v1, rfl, ho1, hk1⟩
  have HO1 := Lib.hid ho1
  have HK1 := Lib.hid hk1
  clear ho1 hk1
  go_wp2_with fail
  refine (u32_i v1 _ 4096 4096 _ HO1.out.rd rfl (by decide) (by rw [List.length_append, be4_len]; omega)).mono ?_
  rintro e w2 ⟨v2, rfl, ho2, hk2⟩
  have HO2 := Lib.hid ho2
  have HK2 := Lib.hid (HK1.out.tr hk2)
  clear ho2 hk2
  go_wp2_with fail
  refine (u32_i v2 _ 512 512 _ HO2.out.rd rfl (by decide) (by rw [List.length_append, List.length_append, be4_len, be4_len]; omega)).mono ?_
  rintro e w3 ⟨v3, rfl, ho3, hk3⟩
  go_wp2
  go_ret
  exact ⟨v3, rfl, ho3.base HK2.out.size, HK2.out.tr hk3⟩
theorem lit_toList (l : List UInt8) : ({ data := l.toArray } : ByteArray).toList = l := ByteArray.toList_mk l
set_option maxHeartbeats 400000 in
theorem wish_any (w : World) : Calls Try.prog 29 #[] w (MadeP wishB w) := by
  have hr := Rd.lit w #[Value.int .u8 90] 5 (0, 0) 1 rfl (by decide)
  rw [one_byte (k := 90) (n := 90) rfl (by decide)] at hr
  have HR := Lib.hid hr
  clear hr
  go_enter Try.func29, Try.ntmps29
  go_wp2_with fail
  refine (text_any _ _ _ _ HR.out (by decide)).mono ?_
  rintro e w1 ⟨v1, rfl, ho1, hk1⟩
  rw [lit_toList [115, 101, 115, 115, 105, 111, 110]] at ho1
  have HK1 : Hid (Kp0 w w1) := Lib.hid (((Kp.refl _ w).alloc _).tr hk1)
  have HO1 := Lib.hid ho1
  clear ho1 hk1
  go_wp2_with fail
  refine (bounds_any v1 _ _ HO1.out.rd (by decide)).mono ?_
  rintro e w2 ⟨v2, rfl, ho2, hk2⟩
  go_wp2
  go_ret
  exact ⟨v2, rfl, ho2.base HK1.out.size, HK1.out.tr hk2⟩
set_option maxHeartbeats 400000 in
theorem confirm_any (m : Int) (j : Nat) (w : World) (hm : m = j) (hj : j < 4294967296) : Calls Try.prog 60 #[.int .u32 m] w (MadeP (confirmB j) w) := by
  have HM := Lib.hid hm
  have HJ := Lib.hid hj
  clear hm hj
  go_enter Try.func60, Try.ntmps60
  go_wp2_with fail
  refine (to_any _ m 91 j _ rfl (by decide) HM.out HJ.out).mono ?_
  rintro e w1 ⟨v1, rfl, ho1, hk1⟩
  have HO1 := Lib.hid ho1
  have HK1 := Lib.hid hk1
  clear ho1 hk1
  go_wp2_with fail
  refine (bounds_any v1 _ _ HO1.out.rd (by rw [toB_len]; decide)).mono ?_
  rintro e w2 ⟨v2, rfl, ho2, hk2⟩
  go_wp2
  go_ret
  exact ⟨v2, rfl, ho2.base HK1.out.size, HK1.out.tr hk2⟩
theorem enc_nil_len : (encText []).length = 4 := rfl
set_option maxHeartbeats 400000 in
theorem refuse_any (m : Int) (j : Nat) (w : World) (hm : m = j) (hj : j < 4294967296) : Calls Try.prog 59 #[.int .u32 m] w (MadeP (refuseB j) w) := by
  have HM := Lib.hid hm
  have HJ := Lib.hid hj
  clear hm hj
  go_enter Try.func59, Try.ntmps59
  go_wp2_with fail
  refine (to_any _ m 92 j _ rfl (by decide) HM.out HJ.out).mono ?_
  rintro e w1 ⟨v1, rfl, ho1, hk1⟩
  have HO1 := Lib.hid ho1
  have HK1 := Lib.hid hk1
  clear ho1 hk1
  go_wp2_with fail
  refine (u32_i v1 _ 3 3 _ HO1.out.rd rfl (by decide) (by rw [toB_len]; decide)).mono ?_
  rintro e w2 ⟨v2, rfl, ho2, hk2⟩
  have HO2 := Lib.hid ho2
  have HK2 := Lib.hid (HK1.out.tr hk2)
  clear ho2 hk2
  go_wp2_with fail
  refine (text_any v2 _ _ _ HO2.out.rd (by simp only [List.length_append, toB_len, be4_len]; decide)).mono ?_
  rintro e w3 ⟨v3, rfl, ho3, hk3⟩
  have HO3 := Lib.hid ho3
  have HK3 := Lib.hid (HK2.out.tr hk3)
  clear ho3 hk3
  go_wp2_with fail
  refine (text_any v3 _ _ _ HO3.out.rd (by rw [nil_toList]; simp only [List.length_append, toB_len, be4_len, enc_nil_len]; decide)).mono ?_
  rintro e w4 ⟨v4, rfl, ho4, hk4⟩
  rw [nil_toList] at ho4
  go_wp2
  go_ret
  exact ⟨v4, rfl, ho4.base HK3.out.size, HK3.out.tr hk4⟩
set_option maxHeartbeats 400000 in
theorem request_any (m : Int) (j : Nat) (w : World) (hm : m = j) (hj : j < 4294967296) : Calls Try.prog 53 #[.int .u32 m] w (MadeP (requestB j) w) := by
  have HM := Lib.hid hm
  have HJ := Lib.hid hj
  clear hm hj
  go_enter Try.func53, Try.ntmps53
  go_wp2_with fail
  refine (to_any _ m 98 j _ rfl (by decide) HM.out HJ.out).mono ?_
  rintro e w1 ⟨v1, rfl, ho1, hk1⟩
  have HO1 := Lib.hid ho1
  have HK1 := Lib.hid hk1
  clear ho1 hk1
  go_wp2_with fail
  refine (text_any v1 _ _ _ HO1.out.rd (by rw [toB_len]; decide)).mono ?_
  rintro e w2 ⟨v2, rfl, ho2, hk2⟩
  rw [lit_toList [115, 117, 98, 115, 121, 115, 116, 101, 109]] at ho2
  have HO2 := Lib.hid ho2
  have HK2 := Lib.hid (HK1.out.tr hk2)
  clear ho2 hk2
  go_wp2_with fail
  refine (flag_any v2 _ true _ HO2.out.rd (by rw [List.length_append, toB_len]; decide)).mono ?_
  rintro e w3 ⟨v3, rfl, ho3, hk3⟩
  have HO3 := Lib.hid ho3
  have HK3 := Lib.hid (HK2.out.tr hk3)
  clear ho3 hk3
  go_wp2_with fail
  refine (text_any v3 _ _ _ HO3.out.rd (by rw [List.length_append, List.length_append, toB_len]; decide)).mono ?_
  rintro e w4 ⟨v4, rfl, ho4, hk4⟩
  rw [lit_toList [110, 101, 116, 99, 111, 110, 102]] at ho4
  go_wp2
  go_ret
  exact ⟨v4, rfl, ho4.base HK3.out.size, HK3.out.tr hk4⟩
end Go.Proofs.Ytbifdckmkogbgaa
