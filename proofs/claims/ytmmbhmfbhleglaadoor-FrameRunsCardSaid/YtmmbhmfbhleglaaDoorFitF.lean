/- The laws' own opening. -/
import Derived.Test.YtmmbhmfbhleglaaDoorFrH
namespace Go.Proofs.YtmmbhmfbhleglaaDoor
open Go Go.RowKit
theorem dc_new {B : Nat} {Z : Nat → Prop} {w : World} (hB : B ≤ w.heap.size) (hz : ∀ i, Z i → i < w.heap.size) :
    Dc B Z (w.alloc (.cells #[.slice none 0 0, .slice none 0 0, .bool false, .bool false] 26)) w.heap.size ⟨[], [], false, false⟩ :=
  ⟨_, _, blk0 w _ [.slice none 0 0, .slice none 0 0, .bool false, .bool false], Ow.nil _ _ _, Ow.nil _ _ _, hB, (fun h => by have := hz _ h; omega), (fun g hg => by cases hg), (fun g hg => by cases hg), (fun i hi => by have := hz i hi; show i < (w.heap.push _).size; rw [Array.size_push]; omega)⟩
abbrev NoZ : Nat → Prop := fun _ => False
theorem kp0_of_fb {w w1 w2 : World} (h : Kp0 w w1) (hk : Kp (FB w.heap.size NoZ) w1 w2) : Kp0 w w2 := h.trans hk (fun _ _ h => h) (fun i hi h2 => by have := h2.1; omega)
theorem dig2 : Lib.decDigits 2 = [50] := by rw [Lib.decDigits_one (by decide)]; rfl
def fitW : List UInt8 := [97, 98, 93, 93, 62, 93, 93, 62, 10, 35, 50, 10, 99, 100, 10, 35, 35, 10]
theorem fit_w : encS [97, 98] false ++ encS [99, 100] true = fitW := by
  unfold encS
  rw [if_neg (by decide), if_pos rfl, if_neg (by decide), show ([99, 100] : List UInt8).length = 2 from rfl, dig2]
  rfl
theorem fit_l : (St.mk [] [] false false).W.length + fitW.length ≤ 140737488355328 := by simp [fitW]
theorem fit_m1 : Fine ⟨fitW, [], false, false⟩ := ⟨by simp, by simp [fitW]⟩
theorem fit_m2 : Fine ⟨[10, 35, 50, 10, 99, 100, 10, 35, 35, 10], [], true, false⟩ := ⟨by simp, by simp⟩
theorem fit_1 : nextS ⟨fitW, [], false, false⟩ = ([97, 98], 0, ⟨[10, 35, 50, 10, 99, 100, 10, 35, 35, 10], [], false, false⟩) := by rfl
theorem fit_2 : nextS ⟨[10, 35, 50, 10, 99, 100, 10, 35, 35, 10], [], true, false⟩ = ([99, 100], 0, ⟨[], [], true, false⟩) := by
  have h1 : stepS [10, 35, 50, 10, 99, 100, 10, 35, 35, 10] [] = .more [10, 35, 35, 10] [99, 100] := by rfl
  have h2 : stepS [10, 35, 35, 10] [99, 100] = .done [] := by rfl
  have h3 : gatherS [10, 35, 50, 10, 99, 100, 10, 35, 35, 10] [] = ([99, 100], 0, [], []) := by rw [gatherS_more h1, gatherS_done h2]
  have h4 : rawS ⟨[10, 35, 50, 10, 99, 100, 10, 35, 35, 10], [], true, false⟩ = ([99, 100], 0, [], []) := h3
  unfold nextS
  rw [h4]
  rfl
theorem fit_e : encS [97, 98] true = [10, 35, 50, 10, 97, 98, 10, 35, 35, 10] := by
  unfold encS
  rw [if_pos rfl, if_neg (by decide), show ([97, 98] : List UInt8).length = 2 from rfl, dig2]
  rfl
theorem str2 (a b : UInt8) : ({ data := #[a, b] } : ByteArray).toList = [a, b] := lit_toList _
set_option maxRecDepth 20000 in
set_option maxHeartbeats 2000000 in
theorem fit_any (w : World) (hg : Gw w) : Calls Tryd.prog 4 #[] w fun e w' => e = .returned (.bool true) ∧ Kp0 w w' := by
  have HG := Lib.hid hg
  clear hg
  go_enter Tryd.func4, Tryd.ntmps4
  go_wp2_with fail
  have HD0 := Lib.hid (dc_new (B := w.heap.size) (Z := NoZ) (w := w) (Nat.le_refl _) (fun i h => h.elim))
  obtain ⟨w1, hw1⟩ : ∃ w1, w1 = w.alloc (.cells #[.slice none 0 0, .slice none 0 0, .bool false, .bool false] 26) := ⟨_, rfl⟩
  have HK1 : Hid (Kp0 w w1) := Lib.hid (by rw [hw1]; exact (Kp.refl _ _).alloc _)
  rw [← hw1] at HD0 ⊢
  clear hw1
  refine (encode_any _ _ _ (HG.out.kp0 HK1.out) (by decide)).mono ?_
  rintro e w2 ⟨t1, rfl, ht1, hk⟩
  have HK2 := Lib.hid (HK1.out.tr hk)
  have HD2 := Lib.hid (HD0.out.kp0 hk)
  have hs1 : (t1.size : Int) ≤ 100 := by have h := size_toList t1; rw [ht1, str2] at h; have h2 : (encS [97, 98] false).length = 8 := rfl; omega
  have HT1 := Lib.hid ht1
  clear ht1 hk
  go_wp2_with fail
  refine (encode_any _ _ _ (HG.out.kp0 HK2.out) (by decide)).mono ?_
  rintro e w3 ⟨t2, rfl, ht2, hk⟩
  have HK3 := Lib.hid (HK2.out.tr hk)
  have HD3 := Lib.hid (HD2.out.kp0 hk)
  have hts : (t1 ++ t2).toList = fitW := by rw [app_toList, HT1.out, ht2, str2, str2]; exact fit_w
  have hs12 : (t1 ++ t2).size = 18 := by rw [← size_toList, hts]; rfl
  have hs2 : (t2.size : Int) ≤ 100 := by have h := ByteArray.size_append (a := t1) (b := t2); omega
  have HTS := Lib.hid hts
  have HS12 : Hid ((t1 ++ t2).size ≤ 9223372036854775807) := Lib.hid (by omega)
  clear hts hs12 ht2 hk
  go_wp2_with (refine wl_bytes_of_str (o := ⟨some 9, _, _, _, _, _⟩) rfl _ 9 24 5 rfl Tryd.underlying9 Tryd.underlying24 Tryd.underlying5 (t1 ++ t2) rfl HS12.out ?_; intro cap w4 hrd hgr; have HK4 := Lib.hid (HK3.out.grown hgr (by simp)); have HD4 := Lib.hid (HD3.out.kp0 ((Kp.refl _ _).grown hgr (by simp))); rw [HTS.out] at hrd; (obtain ⟨v4, hv4⟩ : ∃ v, v = Value.slice (some ⟨w3.heap.size, 0, none⟩) (t1 ++ t2).size cap := ⟨_, rfl⟩); rw [← hv4] at hrd ⊢; clear hv4; have HR4 := Lib.hid hrd; clear hrd hgr)
  go_at_call 6
  refine (feed_any w.heap.size NoZ w.heap.size ⟨[], [], false, false⟩ _ fitW _ HD4.out HR4.out fit_l).mono ?_
  rintro e w5 ⟨rfl, hd, hk⟩
  have HK5 := Lib.hid (kp0_of_fb HK4.out hk)
  have HD5 : Hid (Dc w.heap.size NoZ w5 w.heap.size ⟨fitW, [], false, false⟩) := Lib.hid hd
  clear hd hk
  go_wp2_with fail
  refine (Next_any w.heap.size NoZ w.heap.size _ _ HD5.out (HG.out.kp0 HK5.out) HG.out.sz fit_m1).mono ?_
  rw [fit_1]
  rintro e w6 ⟨a, rfl, ha, hd, hk⟩
  have HK6 := Lib.hid (kp0_of_fb HK5.out hk)
  have HD6 := Lib.hid hd
  obtain rfl : a = { data := #[97, 98] } := str_ext (by rw [ha, str2])
  clear hd hk ha
  simp only [] at HD6 ⊢
  go_wp2_with fail
  refine (switch_any w.heap.size NoZ w.heap.size _ _ HD6.out).mono ?_
  rintro e w7 ⟨rfl, hd, hk⟩
  have HK7 := Lib.hid (kp0_of_fb HK6.out hk)
  have HD7 : Hid (Dc w.heap.size NoZ w7 w.heap.size ⟨[10, 35, 50, 10, 99, 100, 10, 35, 35, 10], [], true, false⟩) := Lib.hid hd
  clear hd hk
  go_wp2_with fail
  refine (Next_any w.heap.size NoZ w.heap.size _ _ HD7.out (HG.out.kp0 HK7.out) HG.out.sz fit_m2).mono ?_
  rw [fit_2]
  rintro e w8 ⟨c, rfl, hc, hd, hk⟩
  have HK8 := Lib.hid (kp0_of_fb HK7.out hk)
  obtain rfl : c = { data := #[99, 100] } := str_ext (by rw [hc, str2])
  clear hd hk hc
  simp only []
  go_wp2_with fail
  refine (encode_any _ _ _ (HG.out.kp0 HK8.out) (by decide)).mono ?_
  rintro e w9 ⟨t3, rfl, ht3, hk⟩
  have HK9 := Lib.hid (HK8.out.tr hk)
  obtain rfl : t3 = { data := #[10, 35, 50, 10, 97, 98, 10, 35, 35, 10] } := str_ext (by rw [ht3, str2, fit_e, lit_toList])
  clear ht3 hk
  go_wp2
  all_goals go_ret
  all_goals exact ⟨rfl, HK9.out⟩
end Go.Proofs.YtmmbhmfbhleglaaDoor
