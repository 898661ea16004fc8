/- The document's digits and encoding. -/
import Derived.Test.YtdjknljhpbebiaaDoorFitF
namespace Go.Proofs.YtdjknljhpbebiaaDoor
open Go Go.RowKit
def digS (n : Nat) (s : List UInt8) : List UInt8 := if n = 0 then s else Lib.decDigits n ++ s
theorem digS_step {n : Nat} (h : n ≠ 0) (s : List UInt8) : digS (n / 10) (UInt8.ofNat (48 + n % 10) :: s) = digS n s := by
  unfold digS
  rw [if_neg h]
  by_cases h1 : n < 10
  · rw [if_pos (by omega), Lib.decDigits_one h1, show n % 10 = n by omega]
    rfl
  · rw [if_neg (by omega)]
    conv => rhs; rw [Lib.decDigits, dif_neg h1]
    simp
theorem one_size {s : ByteArray} {c : UInt8} (h : s.toList = [c]) : (s.size : Int) ≤ 20 := by
  have h1 := size_toList s
  rw [h] at h1
  have h2 : ([c] : List UInt8).length = 1 := rfl
  omega
structure DInv (R : List UInt8) (w wr : World) (k : Nat) (t : ByteArray) : Prop where
  eq : digS k t.toList = R
  kp : Kp0 w wr
theorem DInv.size {R : List UInt8} {w wr : World} {k : Nat} {t : ByteArray} (h : DInv R w wr k t) : t.size ≤ R.length := by
  have h1 := h.eq
  have h2 := size_toList t
  rw [← h1]
  unfold digS
  split
  · omega
  · rw [List.length_append]; omega
set_option maxRecDepth 20000 in
set_option maxHeartbeats 2000000 in
theorem digits_any (u : Nat) (w : World) (hu : u ≤ 1000000) : Calls Tryd.prog 19 #[.int .i64 u] w fun e w' => ∃ t : ByteArray, e = .returned (.string t) ∧ t.toList = digS u [] ∧ Kp0 w w' := by
  obtain ⟨R, hR⟩ : ∃ R, R = digS u [] := ⟨_, rfl⟩
  have hRl : R.length ≤ 20 := by
    rw [hR]
    unfold digS
    split
    · simp
    · rw [List.append_nil, Lib.decDigits_length]
      exact Lib.nDigits_le20 u (by omega)
  have HRL := Lib.hid hRl
  have H0 : Hid (DInv R w w u { data := #[] }) := Lib.hid ⟨by rw [lit_toList]; exact hR.symm, Kp.refl _ _⟩
  rw [← hR]
  have hui : (u : Int) ≤ 1000000 := by omega
  clear hRl hR
  go_enter Tryd.func19, Tryd.ntmps19
  go_wp2
  go_loopg [0, 3] u (fun gg n s wr => ∃ (k : Nat) (t : ByteArray), n = .int .i64 k ∧ s = .string t ∧ k = gg ∧ k ≤ u ∧ DInv R w wr k t)
  case atStart => exact ⟨u, _, rfl, rfl, rfl, Nat.le_refl _, H0.out⟩
  case round =>
    obtain ⟨k, t, rfl, rfl, rfl, hk, hi⟩ := hrel
    have hts := hi.size
    have hti : (t.size : Int) ≤ 20 := by have := HRL.out; omega
    have HI := Lib.hid hi
    have hki : (k : Int) ≤ 1000000 := by omega
    clear hi hts
    by_cases h0 : k = 0
    · subst h0
      go_wp2
      go_ret
      exact ⟨t, rfl, by have := HI.out.eq; unfold digS at this; rwa [if_pos rfl] at this, HI.out.kp⟩
    · have hk0 : (0 : Int) < k := by omega
      have HS := Lib.hid (digS_step h0 t.toList)
      obtain ⟨c, hc⟩ : ∃ c, c = UInt8.ofNat (48 + k % 10) := ⟨_, rfl⟩
      have hcv : (48 : Int) + (k : Int) % 10 = (c.toNat : Int) := by
        have : c.toNat = 48 + k % 10 := by rw [hc, UInt8.toNat_ofNat']; omega
        rw [this]
        omega
      rw [← hc] at HS
      have HC := Lib.hid hcv
      have hdiv : (k : Int) / 10 = ((k / 10 : Nat) : Int) := by omega
      have HDV := Lib.hid hdiv
      clear hc hcv hdiv
      have HR : Hid (Rd (wr.alloc (.cells #[.int .u8 (48 + (k : Int) % 10)] 5)) (.slice (some ⟨wr.heap.size, 0, none⟩) 1 1) (bys [c])) := Lib.hid (by
        rw [HC.out]
        exact Rd.lit wr #[.int .u8 (c.toNat : Int)] 5 (0, 0) 1 rfl (by decide))
      have HK : Hid (Kp0 w (wr.alloc (.cells #[.int .u8 (48 + (k : Int) % 10)] 5))) := Lib.hid (HI.out.kp.alloc _)
      go_wp2_with (refine wl_str_of (o := ⟨some 11, _, _, _, _, _⟩) rfl _ 24 9 5 rfl Tryd.underlying24 Tryd.underlying5 Tryd.underlying9 rfl HR.out ?_; intro s hs; have hs1 : (s.size : Int) ≤ 20 := one_size hs; have HSS := Lib.hid hs; clear hs)
      generalize (wr.alloc (.cells #[.int .u8 (48 + (k : Int) % 10)] 5)) = w1 at HR HK ⊢
      go_roundg (k / 10)
      case measure => omega
      case rel => exact ⟨k / 10, s ++ t, by rw [HDV.out], rfl, rfl, by omega, by rw [app_toList, HSS.out]; exact HS.out.trans HI.out.eq, HK.out⟩
theorem digS_size {v : ByteArray} {n : Nat} (hv : v.toList = digS n []) (hn : n < 18446744073709551616) : (v.size : Int) ≤ 20 := by
  have h1 := size_toList v
  rw [hv] at h1
  unfold digS at h1
  split at h1
  · simp at h1; omega
  · rw [List.append_nil, Lib.decDigits_length] at h1
    have := Lib.nDigits_le20 n hn
    omega
set_option maxRecDepth 20000 in
set_option maxHeartbeats 1000000 in
theorem refEnc_any (m : ByteArray) (ch : Bool) (w : World) (hm : m.size ≤ 1000000) : Calls Tryd.prog 15 #[.string m, .bool ch] w (EncPost m.toList ch w) := by
  have hmi : (m.size : Int) ≤ 1000000 := by omega
  have HMM := Lib.hid hm
  cases ch with
  | false =>
    go_enter Tryd.func15, Tryd.ntmps15
    go_wp2
    all_goals go_ret
    all_goals exact ⟨m ++ { data := #[93, 93, 62, 93, 93, 62] }, rfl, by rw [app_toList, lit_toList #[93, 93, 62, 93, 93, 62]]; rfl, Kp.refl _ _⟩
  | true =>
    by_cases h0 : m.toList = []
    · obtain rfl : m = .empty := str_ext (by rw [h0, empty_toList])
      go_enter Tryd.func15, Tryd.ntmps15
      go_wp2
      all_goals go_ret
      all_goals exact ⟨{ data := #[] }, rfl, by rw [lit_toList #[], empty_toList]; rfl, Kp.refl _ _⟩
    · have H0 := Lib.hid h0
      have h0e : m.toList.isEmpty = false := by simpa using h0
      have hm0 : (0 : Int) ≤ m.size := by omega
      clear h0 hm
      go_enter Tryd.func15, Tryd.ntmps15
      go_wp2_with (go_at_call 19; refine (digits_any m.size _ HMM.out).mono ?_; rintro e w2 ⟨v, rfl, hv, hk⟩; have hvs : (v.size : Int) ≤ 20 := digS_size hv (by omega); have HV := Lib.hid hv; have HK2 := Lib.hid hk; clear hv hk)
      all_goals go_ret
      all_goals
        refine ⟨{ data := #[10, 35] } ++ v ++ { data := #[10] } ++ m ++ { data := #[10, 35, 35, 10] }, rfl, ?_, HK2.out⟩
        rw [app_toList, app_toList, app_toList, app_toList, lit_toList #[10, 35], lit_toList #[10], lit_toList #[10, 35, 35, 10], HV.out]
        have hne : m.size ≠ 0 := fun h => H0.out (List.eq_nil_of_length_eq_zero (by rw [size_toList]; exact h))
        unfold encS digS
        rw [if_pos rfl, if_neg H0.out, size_toList, if_neg hne]
        simp
set_option maxRecDepth 20000 in
set_option maxHeartbeats 1000000 in
theorem fwrites_walk (s : ByteArray) (ch : Bool) (w : World) (hg : Gw w) (hs : s.size ≤ 140737488351232) :
    Calls Tryd.prog 6 #[.string s, .bool ch] w fun e w' => e = .returned (.bool true) ∧ Kp0 w w' := by
  have HG := Lib.hid hg
  clear hg
  by_cases hbig : 50000 < s.size
  · have hb : (50000 : Int) < s.size := by omega
    clear hbig
    go_enter Tryd.func6, Tryd.ntmps6
    go_wp2_with fail
    refine (fit_any _ HG.out).mono ?_
    rintro e w1 ⟨rfl, hk⟩
    have HK1 := Lib.hid hk
    clear hk
    go_wp2
    all_goals go_ret
    all_goals exact ⟨rfl, HK1.out⟩
  · have hb : ¬ (50000 : Int) < s.size := by omega
    have HS : Hid (s.size ≤ 1000000) := Lib.hid (by omega)
    clear hbig hs
    go_enter Tryd.func6, Tryd.ntmps6
    go_wp2_with fail
    refine (fit_any _ HG.out).mono ?_
    rintro e w1 ⟨rfl, hk⟩
    have HK1 := Lib.hid hk
    clear hk
    go_wp2_with fail
    refine (encode_any s ch _ (HG.out.kp0 HK1.out) HS.out).mono ?_
    rintro e w2 ⟨t, rfl, ht, hk⟩
    have HT := Lib.hid ht
    have HK2 := Lib.hid (HK1.out.tr hk)
    clear hk ht
    go_wp2_with fail
    refine (refEnc_any s ch _ HS.out).mono ?_
    rintro e w3 ⟨t', rfl, ht', hk⟩
    obtain rfl : t = t' := str_ext (by rw [ht', HT.out])
    have HK3 := Lib.hid (HK2.out.tr hk)
    clear hk ht'
    go_wp2
    all_goals go_ret
    all_goals exact ⟨by simp, HK3.out⟩
end Go.Proofs.YtdjknljhpbebiaaDoor
