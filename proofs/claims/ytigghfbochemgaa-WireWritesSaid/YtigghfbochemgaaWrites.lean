/- The law WireWrites: its walk. -/
import Derived.Test.YtigghfbochemgaaRefB
import Derived.Test.YtigghfbochemgaaInts
namespace Go.Proofs.Ytigghfbochemgaa
open Go Go.RowKit

def flagB (n : Nat) : UInt8 := if n % 2 = 1 then 1 else 0
def outB (lb : List UInt8) (s : ByteArray) (l : List ByteArray) : List UInt8 := lb ++ encText s.toList ++ encNames l ++ encInt s.toList ++ [flagB s.size] ++ be4 lb.length

theorem encInt_len (l : List UInt8) : (encInt l).length ≤ l.length + 5 := by
  have := stripZ_len l
  unfold encInt encText
  rw [List.length_append, be4_len]
  unfold signed
  split
  · rw [List.length_cons]; omega
  · omega
/-- The six values that the document's parts have. -/
def R16 (lb : List UInt8) (s : ByteArray) (l : List ByteArray) (w : World) (v11 : Value) (wx : World) : Prop := Rd wx v11 (bys (outB lb s l)) ∧ Kp0 w wx

set_option maxHeartbeats 2000000 in
theorem writes_walk (v p : Value) (lb : List UInt8) (s : ByteArray) (l : List ByteArray) (w : World) (hv : Rd w v (bys lb)) (hp : Rd w p (strs l)) (hx : ∀ x ∈ l, x.size ≤ 140737488351232) (hsb : s.size ≤ 140737488351232) (hlb : lb.length ≤ 140737488351232) :
    Calls Try.prog 3 #[v, .string s, p] w fun e w' => e = .returned (.bool true) ∧ Kp0 w w' := by
  have HV := Lib.hid hv
  have HP := Lib.hid hp
  obtain ⟨ao, cap, rfl, hc1, hc2, hc3⟩ := hv.shapeB
  obtain ⟨po, pcap, rfl, hp1, hp2, hp3⟩ := hp.shapeS
  have HX := Lib.hid hx
  clear hv hp hx
  go_enter Try.func3, Try.ntmps3
  go_wp2_with fail
  refine (fit_any _).mono ?_
  rintro e w1 ⟨rfl, hk1⟩
  have HV1 := Lib.hid (HV.out.keep0 hk1)
  have HP1 := Lib.hid (HP.out.keep0 hk1)
  have HK1 := Lib.hid hk1
  clear hk1
  go_wp2
  go_loop [7, 18] (fun n i => ∃ k : Nat, i = .int .i64 k ∧ k ≤ l.length ∧ n = .int .i64 (wide (l.take k)) ∧ wide (l.take k) ≤ 2000) (fun _ i => l.length - (intOf i).toNat)
  case atStart => exact ⟨0, rfl, Nat.zero_le _, rfl, Nat.zero_le _⟩
  case round =>
    obtain ⟨k, rfl, hk, rfl, hw⟩ := hrel
    by_cases h : k < l.length
    · obtain ⟨b, o, c, e, _, _, hcell⟩ := HP1.out.posS (by omega)
      simp only [Value.slice.injEq] at e
      obtain ⟨rfl, _, rfl⟩ := e
      have hck := hcell k h
      have hb := HX.out _ (List.getElem_mem h)
      have HW := Lib.hid (wide_take_succ l k h)
      clear hcell
      go_wp2
      · go_ret
        exact ⟨rfl, HK1.out⟩
      · have hle : ((wide (l.take k) : Int) + (1 + ((l[k]'h).size : Int))) ≤ 2000 := by assumption
        go_round
        case rel => exact ⟨k + 1, by go_num, by omega, by rw [HW.out]; go_num, by rw [HW.out]; omega⟩
        case measure => simp [intOf]; omega
    · have hwl : wide l ≤ 2000 := by rw [List.take_of_length_le (by omega)] at hw; exact hw
      clear hw
      by_cases hg : lb.length + s.size ≤ 2000
      · go_wp2_with (at_builtin; refine wl_append_own rfl _ _ 22 rfl Try.underlying22 infoU8 rfl rfl rfl (Own.nil w1.heap.size 5 w1) HV1.out (bys_one _) (by rw [bys_len]; simp [maxLen]; omega) (by rw [bys_len]; simp; omega) (Nat.le_refl _) ?_)
        intro v10 w2 ho10 hg10
        have hk2 : Kp0 w1 w2 := (Kp.refl _ w1).grown hg10 (by simp [Value.ownBlock])
        have R10 := ho10.rd
        have HR10 := Lib.hid R10
        have HK2 := Lib.hid hk2
        clear ho10 hg10 R10 hk2
        go_wp2_with fail
        refine (text_any _ lb s w2 HR10.out (by omega)).mono ?_
        rintro e w3 ⟨v40, rfl, ho40, hk3⟩
        have HO40 := Lib.hid ho40.rd
        have HK3 := Lib.hid hk3
        clear ho40 hk3
        go_wp2_with fail
        refine (names_any _ _ (lb ++ encText s.toList) l w3 HO40.out ((HP1.out.keep0 HK2.out).keep0 HK3.out) (by rw [List.length_append, encText, List.length_append, be4_len, size_toList]; omega)).mono ?_
        rintro e w4 ⟨v42, rfl, ho42, hk4⟩
        have HO42 := Lib.hid ho42.rd
        have HK4 := Lib.hid hk4
        clear ho42 hk4
        go_wp2_with (refine wl_bytes_of_str (o := ⟨some 44, _, _, _, _, _⟩) rfl _ 9 22 5 rfl Try.underlying9 Try.underlying22 Try.underlying5 s rfl (by omega) ?_)
        intro c44 w5 hr44 hg5
        have HR44 := Lib.hid hr44
        have HK5 : Hid (Kp0 w4 w5) := Lib.hid ((Kp.refl _ w4).grown hg5 (by simp))
        clear hr44 hg5
        go_wp2_with fail
        refine (int_any _ _ (lb ++ encText s.toList ++ encNames l) s.toList w5 (HO42.out.keep0 HK5.out) HR44.out (by have := join_wide l; simp only [List.length_append, encText, encNames, be4_len, size_toList]; omega)).mono ?_
        rintro e w6 ⟨v45, rfl, ho45, hk6⟩
        have HO45 := Lib.hid ho45.rd
        have HK6 := Lib.hid hk6
        clear ho45 hk6
        go_wp2_with fail
        have hei := encInt_len s.toList
        refine (flag_any _ (lb ++ encText s.toList ++ encNames l ++ encInt s.toList) _ w6 HO45.out (by have := join_wide l; simp only [List.length_append, encText, encNames, be4_len, size_toList] at hei ⊢; omega)).mono ?_
        rintro e w7 ⟨v50, rfl, ho50, hk7⟩
        have HO50 := Lib.hid ho50.rd
        have HK7 := Lib.hid hk7
        clear ho50 hk7
        go_wp2_with fail
        refine (u32_any _ _ lb.length w7 HO50.out (by omega) (by have := join_wide l; simp only [List.length_append, encText, encNames, be4_len, size_toList, List.length_cons, List.length_nil] at hei ⊢; omega)).mono ?_
        rintro e w8 ⟨v54, rfl, ho54, hk8⟩
        have HO54 := Lib.hid ho54.rd
        have HK8 := Lib.hid hk8
        clear ho54 hk8 hei
        have HFL : Hid (lb ++ encText s.toList ++ encNames l ++ encInt s.toList ++ [if ((s.size : Int) % 2 == 1) then 1 else 0] ++ be4 lb.length = outB lb s l) := Lib.hid (by
          unfold outB flagB
          by_cases h2 : s.size % 2 = 1
          · rw [if_pos h2, if_pos (by rw [beq_iff_eq]; omega)]
          · rw [if_neg h2, if_neg (by rw [beq_iff_eq]; omega)])
        rw [HFL.out] at HO54
        go_wp2_with fail
        have hl12 := Rd.lit w8 #[Value.int .u8 ((s.size : Int) % 2)] 5 (0, 0) 1 rfl (by decide)
        have e12 : #[Value.int .u8 ((s.size : Int) % 2)].toList = bys [flagB s.size] := by
          unfold flagB bys
          by_cases h2 : s.size % 2 = 1
          · rw [if_pos h2]; simp; omega
          · rw [if_neg h2]; simp; omega
        rw [e12] at hl12
        have HL12 := Lib.hid hl12
        clear hl12 e12
        refine (rtext_any s _ (by omega)).mono ?_
        rintro e w9 ⟨v62, rfl, ho62, hk9⟩
        have HO62 := Lib.hid ho62.rd
        have HK9 := Lib.hid hk9
        have HA9 : Hid (Kp0 w1 w9) := Lib.hid ((((((((HK2.out.tr HK3.out).tr HK4.out).tr HK5.out).tr HK6.out).tr HK7.out).tr HK8.out).alloc _).tr HK9.out)
        have HB9 : Hid (Kp0 w8 w9) := Lib.hid (((Kp.refl _ w8).alloc _).tr HK9.out)
        clear ho62 hk9
        go_wp2_with fail
        refine (rnames_any _ l w9 (HP1.out.keep0 HA9.out) (by omega)).mono ?_
        rintro e w10 ⟨v64, rfl, ho64, hk10⟩
        have HO64 := Lib.hid ho64.rd
        have HK10 := Lib.hid hk10
        clear ho64 hk10
        go_wp2_with (refine wl_bytes_of_str (o := ⟨some 66, _, _, _, _, _⟩) rfl _ 9 22 5 rfl Try.underlying9 Try.underlying22 Try.underlying5 s rfl (by omega) ?_)
        intro c66 w11 hr66 hg11
        have HR66 := Lib.hid hr66
        have HK11 : Hid (Kp0 w10 w11) := Lib.hid ((Kp.refl _ w10).grown hg11 (by simp))
        clear hr66 hg11
        go_wp2_with fail
        refine (rint_any _ s.toList w11 HR66.out (by rw [size_toList]; omega)).mono ?_
        rintro e w12 ⟨v67, rfl, ho67, hk12⟩
        have HO67 := Lib.hid ho67.rd
        have HK12 := Lib.hid hk12
        clear ho67 hk12
        go_wp2_with fail
        refine (ru32_any lb.length w12 (by omega)).mono ?_
        rintro e w13 ⟨v71, rfl, ho71, hk13⟩
        have HO71 := Lib.hid ho71.rd
        have HK13 := Lib.hid hk13
        clear ho71 hk13
        obtain ⟨a62, c62, rfl, _, _, _⟩ := HO62.out.shapeB
        obtain ⟨a64, c64, rfl, _, _, _⟩ := HO64.out.shapeB
        obtain ⟨a67, c67, rfl, _, _, _⟩ := HO67.out.shapeB
        obtain ⟨a71, c71, rfl, _, _, _⟩ := HO71.out.shapeB
        go_wp2_with fail
        have KA : Kp0 w9 w13 := ((HK10.out.tr HK11.out).tr HK12.out).tr HK13.out
        have r0 := ((HV1.out.keep0 HA9.out).keep0 KA)
        have r1 := HO62.out.keep0 KA
        have r2 := ((HO64.out.keep0 HK11.out).keep0 HK12.out).keep0 HK13.out
        have r3 := HO67.out.keep0 HK13.out
        have r4 := (HL12.out.keep0 HK9.out).keep0 KA
        have r5 := HO71.out
        have hall := AllRd.cons (r0.alloc _) (AllRd.cons (r1.alloc _) (AllRd.cons (r2.alloc _) (AllRd.cons (r3.alloc _) (AllRd.cons (r4.alloc _) (AllRd.cons (r5.alloc (.cells #[.slice ao lb.length cap, .slice a62 (encText s.toList).length c62, .slice a64 (encNames l).length c64, .slice a67 (encInt s.toList).length c67, .slice (some ⟨w8.heap.size, 0, none⟩) 1 1, .slice a71 (be4 lb.length).length c71] 22)) (AllRd.nil _))))))
        have hlit := Rd.lit w13 #[.slice ao lb.length cap, .slice a62 (encText s.toList).length c62, .slice a64 (encNames l).length c64, .slice a67 (encInt s.toList).length c67, .slice (some ⟨w8.heap.size, 0, none⟩) 1 1, .slice a71 (be4 lb.length).length c71] 22 (0, 0) 6 rfl (by decide)
        refine (rjoin_any _ _ _ _ hlit hall (by
          have := join_wide l
          have := encInt_len s.toList
          simp only [List.flatten_cons, List.flatten_nil, List.length_append, encText, encNames, be4_len, size_toList, List.length_cons, List.length_nil] at this ⊢
          omega)).mono ?_
        rintro e w14 ⟨v73, rfl, ho73, hk14⟩
        have hfl : ([lb, encText s.toList, encNames l, encInt s.toList, [flagB s.size], be4 lb.length] : List (List UInt8)).flatten = outB lb s l := by
          simp [outB]
        rw [hfl] at ho73
        have HKF : Hid (Kp0 w8 w14) := Lib.hid (((HB9.out.tr KA).alloc _).tr hk14)
        have HKE : Hid (Kp0 w w14) := Lib.hid ((((HK1.out.tr HA9.out).tr KA).alloc _).tr hk14)
        have hcv1 := run_string_of (P := Try.prog) (w := w14) 22 5 9 Try.underlying22 Try.underlying5 Try.underlying9 (HO54.out.keep0 HKF.out)
        have hcv2 := run_string_of (P := Try.prog) (w := w14) 22 5 9 Try.underlying22 Try.underlying5 Try.underlying9 ho73.rd
        obtain ⟨so, hso⟩ : ∃ so : ByteArray, so = ⟨(outB lb s l).toArray⟩ := ⟨_, rfl⟩
        rw [← hso] at hcv1 hcv2
        clear r0 r1 r2 r3 r4 r5 hall hlit KA hk14 ho73 hfl hso
        go_wp2
        go_ret
        exact ⟨rfl, HKE.out⟩
      · go_wp2
        go_ret
        exact ⟨rfl, HK1.out⟩
end Go.Proofs.Ytigghfbochemgaa
