/- The laws of layer 8: are names few and short? Package kex: a line; keys and signatures as they are told. Package kex: bytes behind their algorithm's name. Package digest: the small hash of a text; package kex: a talk's hash. Package kex: an offer as a payload. -/
import Derived.Test.YtikjcmhocihmcaaDoorK8
import Derived.Test.YtikjcmhocihmcaaDoorK7
import Derived.Laws.RangeAny
import Derived.Deep.QuietTactic
import Derived.Test.YtikjcmhocihmcaaDoorK6
import Derived.LoopN
namespace Go.Proofs.YtikjcmhocihmcaaDoor
open Go Go.RowKit
def wideK (la : List (List ByteArray)) (k : Nat) : Nat := ((List.range k).map fun i => wide (la.getD i [])).sum
theorem wideK_succ (la : List (List ByteArray)) (k : Nat) : wideK la (k + 1) = wideK la k + wide (la.getD k []) := by
  unfold wideK
  rw [List.range_succ, List.map_append, List.sum_append]
  simp
theorem wideK_mono (la : List (List ByteArray)) {k n : Nat} (h : k ≤ n) : wideK la k ≤ wideK la n := by
  induction h with
  | refl => exact Nat.le_refl _
  | step _ ih => rw [wideK_succ]; omega
def lightS (la : List (List ByteArray)) : Bool := decide (wideK la 8 ≤ 1000)
theorem lightS_le {la : List (List ByteArray)} (h : lightS la = true) : wideK la 8 ≤ 1000 := of_decide_eq_true h
set_option maxRecDepth 100000 in
set_option maxHeartbeats 4000000 in
theorem light_any (va : List Value) (la : List (List ByteArray)) (w : World) (ha : Rows8 w va la) (hx : ∀ l ∈ la, ∀ x ∈ l, x.size ≤ 140737488351232) :
    Calls Tryd.prog 10 #[.agg va.toArray] w fun e w' => e = .returned (.bool (lightS la)) ∧ Kp0 w w' := by
  have HA := Lib.hid ha
  have HX := Lib.hid hx
  clear ha hx
  go_enter Tryd.func10, Tryd.ntmps10
  go_upto_region 2 with (fail)
  have HK1 : Hid (Bks w (w.alloc (.cells va.toArray 23)) [(w.heap.size, 23, va)]) := Lib.hid ((Bks.nil w).push 23 va rfl)
  generalize w.alloc (.cells va.toArray 23) = w1 at HK1 ⊢
  have HI := Lib.hid (info8 HA.out.1)
  go_wp2_with (refine wl_load_blk rfl 23 (.tmp 1) rfl w.heap.size 23 va rfl (HK1.out.at 0 rfl) _ Tryd.underlying23 rfl HI.out ?_)
  go_loopw [3, 9] (fun s3 s9 wr => ∃ k : Nat, s9 = .int .i64 k ∧ s3 = .int .i64 (wideK la k) ∧ k ≤ 8 ∧ Hid (wideK la k ≤ 1000) ∧ Hid (Kp0 w1 wr)) (fun _ i _ => 8 - (intOf i).toNat)
  case atStart => exact ⟨0, rfl, rfl, Nat.zero_le _, Lib.hid (Nat.zero_le _), Lib.hid (Kp.refl _ _)⟩
  case round =>
    obtain ⟨k, rfl, rfl, hk, HM, HKR⟩ := hrel
    by_cases h : k < 8
    · have hk8 : (k : Int) < 8 := by omega
      have hio := run_index_row (P := Tryd.prog) (w := wr) 23 22 8 .i64 va k _ (getD_row (by rw [HA.out.1]; exact h)) Tryd.underlying23 (agg_row _) (size_row _) h
      have AV := HA.out.2.2 k _ (getD_row (by rw [HA.out.1]; exact h))
      have hxl : ∀ x ∈ la.getD k [], x.size ≤ 140737488351232 := by
        have hl : k < la.length := by rw [HA.out.2.1]; exact h
        intro x hx
        rw [List.getD_eq_getElem?_getD, List.getElem?_eq_getElem hl, Option.getD_some] at hx
        exact HX.out _ (List.getElem_mem hl) x hx
      have HXL := Lib.hid hxl
      have HS := Lib.hid (wideK_succ la k)
      have HMN := Lib.hid (wideK_mono la (show k + 1 ≤ 8 from h))
      clear hxl
      obtain ⟨M, hM⟩ : ∃ M, M = wideK la k := ⟨_, rfl⟩
      rw [← hM] at HM HS ⊢
      clear hM
      generalize va.getD k undef = av at hio AV
      generalize la.getD k [] = lx at AV HXL HS
      obtain ⟨ao, cap, rfl, _, _, _⟩ := AV.shapeS
      have HAV := Lib.hid (AV.keep0 (HK1.out.kp.tr HKR.out))
      clear AV
      go_wp2
      go_loopg [3, 14] lx.length (fun gg s3 s14 w5 => ∃ (kk : Nat), s3 = .int .i64 ((M + wide (lx.take kk) : Nat) : Int) ∧ s14 = .int .i64 kk ∧ kk ≤ lx.length ∧ lx.length - kk ≤ gg ∧ Hid (M + wide (lx.take kk) ≤ 1000) ∧ Hid (Kp0 wr w5))
      case atStart => exact ⟨0, rfl, rfl, Nat.zero_le _, by omega, Lib.hid HM.out, Lib.hid (Kp.refl _ _)⟩
      case round =>
        obtain ⟨kk, rfl, rfl, hkk, hgg, HN, HK5⟩ := hrel
        have RX := HAV.out.keep0 HK5.out
        by_cases hl : kk < lx.length
        · obtain ⟨b1, o1, d1, e1, _, _, cell1⟩ := RX.posS (by omega)
          simp only [Value.slice.injEq] at e1
          obtain ⟨rfl, _, rfl⟩ := e1
          have ck1 := cell1 kk hl
          have hsz := HXL.out _ (List.getElem_mem hl)
          have HW := Lib.hid (wide_take_succ lx kk hl)
          obtain ⟨x, hx⟩ : ∃ x, x = lx[kk]'hl := ⟨_, rfl⟩
          rw [← hx] at ck1 hsz HW
          have i1 : (kk : Int) < (lx.length : Int) := by omega
          have hn := HN.out
          obtain ⟨m, hm⟩ : ∃ m, m = M + wide (lx.take kk) := ⟨_, rfl⟩
          rw [← hm] at hn ⊢
          have hnx : M + wide (lx.take (kk + 1)) = m + (x.size + 1) := by rw [HW.out, hm]; omega
          have HNX := Lib.hid hnx
          have hw1 : IntKind.i64.wrap (1 + (x.size : Int)) = 1 + (x.size : Int) := by rw [IntKind.wrap_i64]; omega
          have hw2 : IntKind.i64.wrap ((m : Int) + (1 + (x.size : Int))) = (m : Int) + (1 + (x.size : Int)) := by rw [IntKind.wrap_i64]; omega
          clear cell1 RX hx hm hnx hsz
          by_cases hbig : 1000 < m + (x.size + 1)
          · have hb : (1000 : Int) < (m : Int) + (1 + (x.size : Int)) := by omega
            go_wp2
            go_ret
            have hno : lightS la = false := decide_eq_false (by have h1 := HMN.out; have h2 := HS.out; have h3 := HNX.out; have h4 := wide_take lx (kk + 1); omega)
            exact ⟨by rw [hno]; rfl, HK1.out.kp.tr (HKR.out.tr HK5.out)⟩
          · have hb : ¬ (1000 : Int) < (m : Int) + (1 + (x.size : Int)) := by omega
            have HBG := Lib.hid hbig
            clear hbig
            go_wp2
            go_roundg (lx.length - (kk + 1))
            case measure => omega
            case rel => exact ⟨kk + 1, by rw [HNX.out]; go_num, by go_num, by omega, by omega, Lib.hid (by have := HBG.out; have := HNX.out; omega), HK5⟩
        · have HE : Hid (lx.take kk = lx) := Lib.hid (List.take_of_length_le (by omega))
          clear RX
          rw [HE.out]
          go_wp2
          go_roundw
          case rel => exact ⟨k + 1, by go_num, by rw [HS.out], by omega, Lib.hid (by rw [HS.out]; have := HN.out; rw [HE.out] at this; exact this), Lib.hid (HKR.out.tr HK5.out)⟩
          case measure => simp [intOf]; omega
    · obtain rfl : k = 8 := by omega
      go_wp2
      go_ret
      exact ⟨by rw [show lightS la = true from decide_eq_true HM.out]; rfl, HK1.out.kp.tr HKR.out⟩
end Go.Proofs.YtikjcmhocihmcaaDoor
namespace Go.Proofs.YtikjcmhocihmcaaDoor
open Go Go.RowKit
def badC (c : UInt8) : Bool := decide (c.toNat < 32) || decide (126 < c.toNat)
def badN (n : Nat) : Bool := decide (n < 32) || decide (126 < n)
theorem idx_bad (s : ByteArray) : ∀ (f pos : Nat), s.size - pos ≤ f → decide (0 ≤ Lib.idxFuncFrom badN true s f pos) = (s.toList.drop pos).any badC
  | 0, pos, h => by
    have hl := size_toList s
    rw [List.drop_eq_nil_of_le (by omega)]
    rfl
  | f + 1, pos, h => by
    have hl := size_toList s
    unfold Lib.idxFuncFrom
    by_cases hp : pos < s.size
    · rw [if_pos hp]
      have hj : pos < s.toList.length := by omega
      have e : s.toList[pos]'hj = s[pos]'hp := by
        have h3 : s.toList = s.data.toList := ByteArray.toList_eq s
        simp only [h3]
        rfl
      rw [List.drop_eq_getElem_cons hj, List.any_cons, e]
      by_cases ha : (s[pos]'hp).toNat < 128
      · rw [decode_ascii s pos hp ha]
        simp only []
        by_cases hb : badN (s[pos]'hp).toNat = true
        · rw [if_pos hb, show badC (s[pos]'hp) = true from hb]
          simp
        · rw [if_neg hb, show badC (s[pos]'hp) = false from eq_false_of_ne_true hb, idx_bad s f (pos + 1) (by omega)]
          simp
      · obtain ⟨h1, h2⟩ := decode_high s pos hp (by omega)
        have hb : badN (Utf8.decode s pos).1 = true := by unfold badN; simp; omega
        have hc : badC (s[pos]'hp) = true := by unfold badC; simp; omega
        rw [if_pos hb, hc]
        simp
    · rw [if_neg hp, List.drop_eq_nil_of_le (by omega)]
      rfl
theorem unprinted_any (x : Nat) (w : World) : Calls Tryd.prog 60 #[.int .i32 (x : Int)] w fun e w' => e = .returned (.bool (badN x)) ∧ w' = w := by
  obtain ⟨r, hr⟩ : ∃ r, r = badN x := ⟨_, rfl⟩
  have HR := Lib.hid hr
  unfold badN at hr
  rw [← HR.out]
  by_cases h1 : x < 32
  · have i1 : (x : Int) < 32 := by omega
    have e : r = true := by rw [hr, decide_eq_true h1]; rfl
    subst e
    clear hr HR
    go_enter Tryd.func60, Tryd.ntmps60
    go_wp2
    go_ret
    exact ⟨rfl, rfl⟩
  · have i1 : ¬ (x : Int) < 32 := by omega
    by_cases h2 : 126 < x
    · have i2 : (126 : Int) < (x : Int) := by omega
      have e : r = true := by rw [hr, decide_eq_true h2]; simp
      subst e
      clear hr HR
      go_enter Tryd.func60, Tryd.ntmps60
      go_wp2
      go_ret
      exact ⟨rfl, rfl⟩
    · have i2 : ¬ (126 : Int) < (x : Int) := by omega
      have e : r = false := by rw [hr, decide_eq_false h1, decide_eq_false h2]; rfl
      subst e
      clear hr HR
      go_enter Tryd.func60, Tryd.ntmps60
      go_wp2
      go_ret
      exact ⟨rfl, rfl⟩
theorem enters_unprinted : ∀ args w, (callFunc 60 args).run Tryd.prog w = .ok (.enter 60 args) w := enters_of Tryd.func60 (by kernel_rfl) rfl
theorem containsBad_any (s : ByteArray) (w : World) : Calls Tryd.prog 59 #[.string s, .func (.func 60) #[] #[]] w fun e w' => e = .returned (.bool (s.toList.any badC)) ∧ Kp0 w w' := by
  refine (Tryd.strings_ContainsFunc 60 #[] enters_unprinted badN s w (fun W x _ => ?_)).mono ?_
  · refine (unprinted_any x W).mono ?_
    rintro e w' ⟨rfl, rfl⟩
    exact ⟨rfl, 0, rfl⟩
  · rintro e w' ⟨rfl, hb⟩
    have h := idx_bad s s.size 0 (by omega)
    rw [List.drop_zero] at h
    unfold Lib.idxFunc
    rw [h]
    exact ⟨rfl, (Kp.of_below hb).mono (fun i hi h2 => absurd hi (Nat.not_lt.2 h2))⟩
def lineH : ByteArray := { data := #[83, 83, 72, 45, 50, 46, 48, 45] }
def lineOk (s : ByteArray) : Bool := decide (s.size ≤ 100) && Lib.hasPrefix s.data.toList lineH.data.toList && !(s.toList.any badC)
def lineS (s : ByteArray) : ByteArray := if lineOk s then s else .empty
theorem lineS_yes {s : ByteArray} (h : lineOk s = true) : lineS s = s := by unfold lineS; rw [if_pos h]
theorem lineS_no {s : ByteArray} (h : lineOk s = false) : lineS s = .empty := by unfold lineS; rw [if_neg (by simp [h])]
set_option maxHeartbeats 1000000 in
theorem line_any (s : ByteArray) (w : World) : Calls Tryd.prog 24 #[.string s] w fun e w' => e = .returned (.string (lineS s)) ∧ Kp0 w w' := by
  obtain ⟨p, hp⟩ : ∃ p, p = Lib.hasPrefix s.data.toList lineH.data.toList := ⟨_, rfl⟩
  obtain ⟨c, hc⟩ : ∃ c, c = s.toList.any badC := ⟨_, rfl⟩
  have HP := Lib.hid hp
  have HC := Lib.hid hc
  have HO : Hid (lineOk s = (decide (s.size ≤ 100) && p && !c)) := Lib.hid (by unfold lineOk; rw [hp, hc])
  clear hp hc
  by_cases h1 : 100 < s.size
  · have HN : Hid (lineS s = .empty) := Lib.hid (lineS_no (by rw [HO.out, decide_eq_false (by omega)]; rfl))
    have i1 : (100 : Int) < (s.size : Int) := by omega
    go_enter Tryd.func24, Tryd.ntmps24
    go_wp2
    go_ret
    exact ⟨by rw [HN.out]; rfl, Kp.refl _ _⟩
  · have i1 : ¬ (100 : Int) < (s.size : Int) := by omega
    have HD : Hid (decide (s.size ≤ 100) = true) := Lib.hid (decide_eq_true (by omega))
    cases p
    · have HN : Hid (lineS s = .empty) := Lib.hid (lineS_no (by rw [HO.out, HD.out]; rfl))
      go_enter Tryd.func24, Tryd.ntmps24
      go_wp2_with (go_at_call 58; refine (Tryd.strings_HasPrefix s lineH _).mono ?_; rintro e w1 ⟨rfl, rfl⟩; rw [← HP.out])
      go_ret
      exact ⟨by rw [HN.out]; rfl, Kp.refl _ _⟩
    · cases c
      · have HN : Hid (lineS s = s) := Lib.hid (lineS_yes (by rw [HO.out, HD.out]; rfl))
        go_enter Tryd.func24, Tryd.ntmps24
        go_wp2_with (first
          | (go_at_call 58; refine (Tryd.strings_HasPrefix s lineH _).mono ?_; rintro e w1 ⟨rfl, rfl⟩; rw [← HP.out])
          | (go_at_call 59; refine (containsBad_any s _).mono ?_; rintro e w2 ⟨rfl, hk⟩; have HK := Lib.hid hk; clear hk; rw [← HC.out]))
        go_ret
        exact ⟨by rw [HN.out]; rfl, HK.out⟩
      · have HN : Hid (lineS s = .empty) := Lib.hid (lineS_no (by rw [HO.out, HD.out]; rfl))
        go_enter Tryd.func24, Tryd.ntmps24
        go_wp2_with (first
          | (go_at_call 58; refine (Tryd.strings_HasPrefix s lineH _).mono ?_; rintro e w1 ⟨rfl, rfl⟩; rw [← HP.out])
          | (go_at_call 59; refine (containsBad_any s _).mono ?_; rintro e w2 ⟨rfl, hk⟩; have HK := Lib.hid hk; clear hk; rw [← HC.out]))
        go_ret
        exact ⟨by rw [HN.out]; rfl, HK.out⟩
end Go.Proofs.YtikjcmhocihmcaaDoor
namespace Go.Proofs.YtikjcmhocihmcaaDoor
open Go Go.RowKit
def toldB (l : List UInt8) : List UInt8 := encText ownE.toList ++ encText l
def readT (l : List UInt8) (n : Nat) : List UInt8 := if (textS (textS (some l)).2).2 = some [] ∧ (textS (some l)).1 = ownE.toList ∧ (textS (textS (some l)).2).1.length = n then (textS (textS (some l)).2).1 else []
theorem ownE_size : ownE.size = 11 := rfl
theorem ownE_list : ownE.toList = [115, 115, 104, 45, 101, 100, 50, 53, 53, 49, 57] := by rw [ByteArray.toList_eq]; rfl
theorem encText_len (l : List UInt8) : (encText l).length = l.length + 4 := by simp [encText, be4]
set_option maxRecDepth 20000 in
set_option maxHeartbeats 1000000 in
theorem told_any (s : ByteArray) (w : World) (hs : s.size ≤ 100000000) :
    Calls Tryd.prog 54 #[.string s] w fun e w' => ∃ t, e = .returned (.string t) ∧ t.toList = toldB s.toList ∧ Kp0 w w' := by
  have HS := Lib.hid hs
  have HZ : Hid (([] : List UInt8).length + ownE.size ≤ 800000000) := Lib.hid (by rw [ownE_size]; decide)
  clear hs
  go_enter Tryd.func54, Tryd.ntmps54
  go_wp2_with (first
    | (go_at_call 61
       refine (text_any (.slice none 0 0) [] ownE _ (Rd.nil _) HZ.out).mono ?_
       rintro e w1 ⟨v1, rfl, ho, hk⟩
       have HO := Lib.hid ho
       have HK := Lib.hid hk
       clear ho hk HZ)
    | (go_at_call 61
       refine (text_any v1 ([] ++ encText ownE.toList) s _ HO.out.rd (by rw [List.nil_append, encText_len, size_toList, ownE_size]; have := HS.out; omega)).mono ?_
       rintro e w2 ⟨v2, rfl, ho2, hk2⟩
       have HO2 := Lib.hid ho2
       have HK2 := Lib.hid (HK.out.tr hk2)
       clear ho2 hk2)
    | (refine wl_str_of (o := ⟨some 6, _, _, _, _, _⟩) rfl _ 24 9 5 rfl Tryd.underlying24 Tryd.underlying5 Tryd.underlying9 rfl HO2.out.rd ?_
       intro t ht
       have HT := Lib.hid ht
       clear ht))
  go_ret
  exact ⟨t, rfl, by rw [HT.out]; rfl, HK2.out⟩
theorem blob_any (s : ByteArray) (w : World) (hs : s.size ≤ 100000000) :
    Calls Tryd.prog 18 #[.string s] w fun e w' => ∃ t, e = .returned (.string t) ∧ t.toList = toldB s.toList ∧ Kp0 w w' := by
  have HS := Lib.hid hs
  clear hs
  go_enter Tryd.func18, Tryd.ntmps18
  go_wp2_with (go_at_call 54; refine (told_any s _ HS.out).mono ?_; rintro e w1 ⟨t, rfl, ht, hk⟩; have HT := Lib.hid ht; have HK := Lib.hid hk; clear ht hk)
  go_ret
  exact ⟨t, rfl, HT.out, HK.out⟩
def readTB (nm : List UInt8) (b : List UInt8) (st : Option (List UInt8)) (n : Nat) : List UInt8 := if st = some [] ∧ nm = ownE.toList ∧ b.length = n then b else []
theorem readT_eq (l : List UInt8) (n : Nat) : readT l n = readTB (textS (some l)).1 (textS (textS (some l)).2).1 (textS (textS (some l)).2).2 n := rfl
set_option maxRecDepth 20000 in
set_option maxHeartbeats 2000000 in
theorem readTold_any (s : ByteArray) (n : Nat) (w : World) (hs : s.size ≤ 140737488351232) (hn : n ≤ 1000) :
    Calls Tryd.prog 56 #[.string s, .int .i64 (n : Int)] w fun e w' => ∃ t, e = .returned (.string t) ∧ t.toList = readT s.toList n ∧ Kp0 w w' := by
  have HS := Lib.hid hs
  have HR := Lib.hid (readT_eq s.toList n)
  have HL1 := Lib.hid (textS_len (textS (some s.toList)).2)
  clear hs
  go_enter Tryd.func56, Tryd.ntmps56
  go_upto_region 3 with (first
    | (refine wl_bytes_of_str rfl (.tmp 8) 9 24 5 rfl Tryd.underlying9 Tryd.underlying24 Tryd.underlying5 s rfl (by have := HS.out; omega) ?_
       intro cap w1 hrd hg
       have HR1 := Lib.hid hrd
       have HK1 : Hid (Kp0 w w1) := Lib.hid ((Kp.refl _ _).grown hg (by simp))
       clear hrd hg)
    | (go_at_call 38
       refine (from_any _ s.toList _ HR1.out).mono ?_
       rintro e w2 ⟨b, rfl, hb, hr, hk⟩
       have HRS := Lib.hid hr
       have HB : Hid (w.heap.size ≤ b) := Lib.hid (Nat.le_trans HK1.out.size hb)
       have HK2 := Lib.hid (HK1.out.tr hk)
       clear hb hr hk)
    | (go_at_call 74
       refine (text_rs b (some s.toList) _ HRS.out).mono ?_
       rintro e w3 ⟨t1, rfl, ht, hr, hk⟩
       have HT1 := Lib.hid ht
       have HRS3 := Lib.hid hr
       have HK3 : Hid (Kp0 w w3) := Lib.hid (HK2.out.trans hk (fun _ _ h => h) (fun i hi h => by have := HB.out; omega))
       clear ht hr hk HRS)
    | (go_at_call 74
       refine (text_rs b (textS (some s.toList)).2 _ HRS3.out).mono ?_
       rintro e w4 ⟨t2, rfl, ht, hr, hk⟩
       have HT2 := Lib.hid ht
       have HRS4 := Lib.hid hr
       have HK4 : Hid (Kp0 w w4) := Lib.hid (HK3.out.trans hk (fun _ _ h => h) (fun i hi h => by have := HB.out; omega))
       clear ht hr hk HRS3))
  rw [← HT2.out] at HL1
  rw [← HT1.out, ← HT2.out] at HR
  have hl2 := HL1.out
  rw [size_toList] at hl2
  have HZ := Lib.hid (size_toList t2)
  obtain ⟨st, hst⟩ : ∃ x, x = (textS (textS (some s.toList)).2).2 := ⟨_, rfl⟩
  rw [← hst] at HRS4 HR
  clear hst
  by_cases h1 : st = some []
  · by_cases h2 : t1.toList = ownE.toList
    · have hb2 : (t1.toList == [115, 115, 104, 45, 101, 100, 50, 53, 53, 49, 57]) = true := by rw [h2, ownE_list]; simp
      by_cases h3 : t2.size = n
      · have hb3 : ((t2.size : Int) == (n : Int)) = true := by rw [h3]; simp
        have HE : Hid (readT s.toList n = t2.toList) := Lib.hid (by rw [HR.out]; unfold readTB; rw [if_pos ⟨h1, h2, by rw [HZ.out, h3]⟩])
        have HD : Hid (decide (st = some []) = true) := Lib.hid (decide_eq_true h1)
        clear h1 h2 h3
        go_wp2_with (go_at_call 44; refine (end_rs b st _ HRS4.out).mono ?_; rintro e w5 ⟨rfl, rfl⟩; rw [HD.out])
        go_ret
        exact ⟨t2, rfl, HE.out.symm, HK4.out⟩
      · have hb3 : ((t2.size : Int) == (n : Int)) = false := by rw [beq_eq_false_iff_ne]; omega
        have HE : Hid (readT s.toList n = []) := Lib.hid (by rw [HR.out]; unfold readTB; rw [if_neg (fun h => h3 (by rw [← HZ.out]; exact h.2.2))])
        have HD : Hid (decide (st = some []) = true) := Lib.hid (decide_eq_true h1)
        clear h1 h2 h3
        go_wp2_with (go_at_call 44; refine (end_rs b st _ HRS4.out).mono ?_; rintro e w5 ⟨rfl, rfl⟩; rw [HD.out])
        go_ret
        exact ⟨_, rfl, by rw [HE.out]; exact nil_toList, HK4.out⟩
    · have hb2 : (t1.toList == [115, 115, 104, 45, 101, 100, 50, 53, 53, 49, 57]) = false := by rw [beq_eq_false_iff_ne, ← ownE_list]; exact h2
      have HE : Hid (readT s.toList n = []) := Lib.hid (by rw [HR.out]; unfold readTB; rw [if_neg (fun h => h2 h.2.1)])
      have HD : Hid (decide (st = some []) = true) := Lib.hid (decide_eq_true h1)
      clear h1 h2
      go_wp2_with (go_at_call 44; refine (end_rs b st _ HRS4.out).mono ?_; rintro e w5 ⟨rfl, rfl⟩; rw [HD.out])
      go_ret
      exact ⟨_, rfl, by rw [HE.out]; exact nil_toList, HK4.out⟩
  · have HE : Hid (readT s.toList n = []) := Lib.hid (by rw [HR.out]; unfold readTB; rw [if_neg (fun h => h1 h.1)])
    have HD : Hid (decide (st = some []) = false) := Lib.hid (decide_eq_false h1)
    clear h1
    go_wp2_with (go_at_call 44; refine (end_rs b st _ HRS4.out).mono ?_; rintro e w5 ⟨rfl, rfl⟩; rw [HD.out])
    go_ret
    exact ⟨_, rfl, by rw [HE.out]; exact nil_toList, HK4.out⟩
theorem readBlob_any (s : ByteArray) (w : World) (hs : s.size ≤ 140737488351232) :
    Calls Tryd.prog 21 #[.string s] w fun e w' => ∃ t, e = .returned (.string t) ∧ t.toList = readT s.toList 32 ∧ Kp0 w w' := by
  have HS := Lib.hid hs
  clear hs
  go_enter Tryd.func21, Tryd.ntmps21
  go_wp2_with (go_at_call 56; refine (readTold_any s 32 _ HS.out (by decide)).mono ?_; rintro e w1 ⟨t, rfl, ht, hk⟩; have HT := Lib.hid ht; have HK := Lib.hid hk; clear ht hk)
  go_ret
  exact ⟨t, rfl, HT.out, HK.out⟩
end Go.Proofs.YtikjcmhocihmcaaDoor
namespace Go.Proofs.YtikjcmhocihmcaaDoor
open Go Go.RowKit
attribute [local irreducible] sha256
set_option maxRecDepth 20000 in
set_option maxHeartbeats 4000000 in
theorem sum_any (v : Value) (l : List UInt8) (w : World) (hq : Sqd w) (hc : Cub w) (hv : Rd w v (bys l)) (hl : l.length ≤ 140737488351232) :
    Calls Tryd.prog 62 #[v] w fun e w' => e = .returned (.agg (bys (sha256 l)).toArray) ∧ Kp0 w w' := by
  have HQ := Lib.hid hq
  have HC := Lib.hid hc
  have HV := Lib.hid hv
  have HL := Lib.hid hl
  obtain ⟨ao, cap, rfl, _, _, _⟩ := hv.shapeB
  clear hq hc hv hl
  go_enter Tryd.func62, Tryd.ntmps62
  go_upto_region 1 with (refine wl_alloc_as asB32 rfl rfl ?_
                         intro w1 g4 hw hg
                         have HB1 : Hid (Bks w w1 [(g4, 61, bys zb32)]) := Lib.hid (by rw [hw]; exact (Bks.nil w).push 61 (bys zb32) hg)
                         clear hw hg)
  simp only [Act.put]
  go_wp2_with (first
    | (go_at_call 70
       refine (small_of _ [.slice ao l.length cap] [l] _ (HQ.out.kp0 (HB1.out.kp.alloc _)) (HC.out.kp0 (HB1.out.kp.alloc _)) (rdSlice w1 _ 1 24 rfl (by decide)) (rows_one ((HV.out.keep0 HB1.out.kp).alloc _) HL.out) (by simp only [List.flatten_cons, List.flatten_nil, List.append_nil]; have := HL.out; omega)).mono ?_
       rintro e w7 ⟨rfl, hk⟩
       have HB7 := Lib.hid (HB1.out.kp0 (((Kp.refl _ w1).alloc _).tr hk))
       have HSD : Hid (sha256 [l].flatten = sha256 l) := Lib.hid (by simp)
       rw [HSD.out]
       clear hk)
    | (refine wl_store_blk rfl 61 (.tmp 2) (.tmp 5) rfl g4 _ (bys zb32) (bys (sha256 l)) rfl rfl (HB7.out.at 0 rfl) (infoB32 (sha256_len _)) (len_of (T := 61) (infoB32 (l := zb32) rfl) (infoB32 (sha256_len l))) (bys_onesV _) ?_
       intro w8 hA hK
       have HB8 := Lib.hid (HB7.out.store 0 rfl hA hK)
       clear hA hK))
  refine ret_blk 2 61 61 g4 (bys (sha256 l)) _ rfl rfl (HB8.out.at 0 rfl) Tryd.underlying61 rfl (infoB32 (sha256_len _)) rfl ?_
  exact ⟨rfl, HB8.out.kp⟩
theorem size_str (w : World) : (sizeOf 9).run Tryd.prog w = .ok 1 w := by
  obtain ⟨i, h, h2⟩ : ∃ i, Tryd.prog.info? 9 = some i ∧ Tryd.prog.cellsOf 9 = 1 := by
    have : (Tryd.prog.info? 9).isSome = true := by kernel_rfl
    obtain ⟨i, hi⟩ := Option.isSome_iff_exists.1 this
    exact ⟨i, hi, by kernel_rfl⟩
  rw [run_sizeOf _ h, h2]
theorem agg_str (w : World) : (isAgg 9).run Tryd.prog w = .ok false w := by simp [isAgg, run_underlying Tryd.underlying9, go_sem]
theorem size_byt (w : World) : (sizeOf 24).run Tryd.prog w = .ok 1 w := by
  obtain ⟨i, h, h2⟩ : ∃ i, Tryd.prog.info? 24 = some i ∧ Tryd.prog.cellsOf 24 = 1 := by
    have : (Tryd.prog.info? 24).isSome = true := by kernel_rfl
    obtain ⟨i, hi⟩ := Option.isSome_iff_exists.1 this
    exact ⟨i, hi, by kernel_rfl⟩
  rw [run_sizeOf _ h, h2]
theorem agg_byt (w : World) : (isAgg 24).run Tryd.prog w = .ok false w := by simp [isAgg, run_underlying Tryd.underlying24, go_sem]
theorem idx_s0 (a b : ByteArray) (w : World) : (Instr.index 45 (.agg #[.string a, .string b]) (.int .i64 0)).run Tryd.prog w = .ok (.string a) w :=
  run_index_row 45 9 2 .i64 [.string a, .string b] 0 _ rfl Tryd.underlying45 (agg_str _) (size_str _) (by decide)
theorem idx_s1 (a b : ByteArray) (w : World) : (Instr.index 45 (.agg #[.string a, .string b]) (.int .i64 1)).run Tryd.prog w = .ok (.string b) w :=
  run_index_row 45 9 2 .i64 [.string a, .string b] 1 _ rfl Tryd.underlying45 (agg_str _) (size_str _) (by decide)
theorem idx_b0 (a b : Value) (w : World) : (Instr.index 46 (.agg #[a, b]) (.int .i64 0)).run Tryd.prog w = .ok a w :=
  run_index_row 46 24 2 .i64 [a, b] 0 _ rfl Tryd.underlying46 (agg_byt _) (size_byt _) (by decide)
theorem idx_b1 (a b : Value) (w : World) : (Instr.index 46 (.agg #[a, b]) (.int .i64 1)).run Tryd.prog w = .ok b w :=
  run_index_row 46 24 2 .i64 [a, b] 1 _ rfl Tryd.underlying46 (agg_byt _) (size_byt _) (by decide)
/-- A talk. -/
structure TalkP where
  l0 : ByteArray
  l1 : ByteArray
  b0 : List UInt8
  b1 : List UInt8
  h : ByteArray
  s0 : ByteArray
  s1 : ByteArray
  sh : List UInt8
def TalkP.size (t : TalkP) : Nat := t.l0.size + t.l1.size + t.b0.length + t.b1.length + t.h.size + t.s0.size + t.s1.size + t.sh.length
def TalkP.vals (t : TalkP) (i0 i1 sh : Value) : List Value := [.string t.l0, .string t.l1, i0, i1, .string t.h, .string t.s0, .string t.s1, sh]
structure TalkM (w : World) (t : TalkP) (i0 i1 sh : Value) : Prop where
  r0 : Rd w i0 (bys t.b0)
  r1 : Rd w i1 (bys t.b1)
  r2 : Rd w sh (bys t.sh)
theorem TalkM.kp0 {w w' : World} {t : TalkP} {i0 i1 sh : Value} (h : TalkM w t i0 i1 sh) (hk : Kp0 w w') : TalkM w' t i0 i1 sh := ⟨h.r0.keep0 hk, h.r1.keep0 hk, h.r2.keep0 hk⟩
/-- What is hashed of it. -/
def hashIn (t : TalkP) : List UInt8 := encText t.l0.toList ++ encText t.l1.toList ++ encText t.b0 ++ encText t.b1 ++ encText t.h.toList ++ encText t.s0.toList ++ encText t.s1.toList ++ encInt t.sh
theorem talk_size {t : TalkP} (h : t.size ≤ 100000000) :
    ([] : List UInt8).length + t.l0.size ≤ 800000000 ∧ ([] ++ encText t.l0.toList).length + t.l1.size ≤ 800000000 ∧
    (([] ++ encText t.l0.toList) ++ encText t.l1.toList).length + t.b0.length ≤ 800000000 ∧
    ((([] ++ encText t.l0.toList) ++ encText t.l1.toList) ++ encText t.b0).length + t.b1.length ≤ 800000000 ∧
    (((([] ++ encText t.l0.toList) ++ encText t.l1.toList) ++ encText t.b0) ++ encText t.b1).length + t.h.size ≤ 800000000 ∧
    ((((([] ++ encText t.l0.toList) ++ encText t.l1.toList) ++ encText t.b0) ++ encText t.b1) ++ encText t.h.toList).length + t.s0.size ≤ 800000000 ∧
    (((((([] ++ encText t.l0.toList) ++ encText t.l1.toList) ++ encText t.b0) ++ encText t.b1) ++ encText t.h.toList) ++ encText t.s0.toList).length + t.s1.size ≤ 800000000 ∧
    ((((((([] ++ encText t.l0.toList) ++ encText t.l1.toList) ++ encText t.b0) ++ encText t.b1) ++ encText t.h.toList) ++ encText t.s0.toList) ++ encText t.s1.toList).length + t.sh.length ≤ 700000000 ∧
    (hashIn t).length ≤ 140737488351232 := by
  unfold TalkP.size at h
  have hs := stripZ_len t.sh
  have hg : (signed (stripZ t.sh)).length ≤ t.sh.length + 1 := by
    unfold signed
    split
    · simp only [List.length_cons]
      omega
    · omega
  unfold hashIn encInt
  simp only [List.length_append, encText_len, size_toList, List.length_nil]
  omega
set_option maxRecDepth 20000 in
set_option maxHeartbeats 8000000 in
theorem hash_any (t : TalkP) (i0 i1 sh : Value) (w : World) (hq : Sqd w) (hc : Cub w) (ht : TalkM w t i0 i1 sh) (hl : t.size ≤ 100000000) :
    Calls Tryd.prog 27 #[.agg (t.vals i0 i1 sh).toArray] w fun e w' => ∃ g, e = .returned (.slice (some ⟨g, 0, none⟩) 32 32) ∧ w.heap.size ≤ g ∧ Blk w' g 61 (bys (sha256 (hashIn t))) ∧ Kp0 w w' := by
  have HQ := Lib.hid hq
  have HC := Lib.hid hc
  have HT := Lib.hid ht
  have HL := Lib.hid hl
  clear hq hc ht hl
  go_enter Tryd.func27, Tryd.ntmps27
  go_upto_region 2 with (fail)
  have HB1 : Hid (Bks w (w.alloc (.cells (t.vals i0 i1 sh).toArray 48)) [(w.heap.size, 48, t.vals i0 i1 sh)]) := Lib.hid ((Bks.nil w).push 48 (t.vals i0 i1 sh) rfl)
  generalize w.alloc (.cells (t.vals i0 i1 sh).toArray 48) = w1 at HB1 ⊢
  obtain ⟨g, hg⟩ : ∃ x, x = w.heap.size := ⟨_, rfl⟩
  rw [← hg] at HB1 ⊢
  have HG := Lib.hid hg
  clear hg
  have x0 := idx_s0 t.l0 t.l1
  have x1 := idx_s1 t.l0 t.l1
  go_wp2_with (refine wpList_load_mid rfl 45 (.tmp 11) rfl g 0 rfl [.string t.l0, .string t.l1] _ ((HB1.out.at 0 rfl).part 0 rfl) Tryd.underlying45 rfl (by kernel_rfl) ?_)
  refine wp_loop_rounds 3 ?_
  rw [rounds_succ]
  have HN0 : Hid (Rd w1 (.slice none 0 0) (bys [])) := Lib.hid (Rd.nil _)
  have HZ := Lib.hid (talk_size HL.out)
  go_wp2_with (go_at_call 61; refine (text_any (.slice none 0 0) [] t.l0 _ HN0.out HZ.out.1).mono ?_; rintro e w2 ⟨v2, rfl, ho, hk⟩; have HO2 := Lib.hid ho; have HB2 := Lib.hid (HB1.out.kp0 hk); clear ho hk HN0 HB1)
  rw [rounds_succ]
  go_wp2_with (go_at_call 61; refine (text_any v2 _ t.l1 _ HO2.out.rd HZ.out.2.1).mono ?_; rintro e w3 ⟨v3, rfl, ho, hk⟩; have HO3 := Lib.hid ho; have HB3 := Lib.hid (HB2.out.kp0 hk); clear ho hk HO2 HB2)
  rw [rounds_succ]
  clear x0 x1
  have y0 := idx_b0 i0 i1
  have y1 := idx_b1 i0 i1
  go_wp2_with (refine wpList_load_mid rfl 46 (.tmp 20) rfl g 2 rfl [i0, i1] _ ((HB3.out.at 0 rfl).part 2 rfl) Tryd.underlying46 rfl (by kernel_rfl) ?_)
  refine wp_loop_rounds 3 ?_
  rw [rounds_succ]
  go_wp2_with (first
    | (refine wl_str_of (o := ⟨some 27, _, _, _, _, _⟩) rfl _ 24 9 5 rfl Tryd.underlying24 Tryd.underlying5 Tryd.underlying9 rfl (HT.out.kp0 HB3.out.kp).r0 ?_
       intro c0 hc0
       have HC0 := Lib.hid hc0
       clear hc0)
    | (go_at_call 61; refine (text_any v3 _ c0 _ HO3.out.rd (by rw [← size_toList c0, HC0.out]; exact HZ.out.2.2.1)).mono ?_; rw [HC0.out]; rintro e w4 ⟨v4, rfl, ho, hk⟩; have HO4 := Lib.hid ho; have HB4 := Lib.hid (HB3.out.kp0 hk); clear ho hk HO3 HB3))
  rw [rounds_succ]
  go_wp2_with (first
    | (refine wl_str_of (o := ⟨some 27, _, _, _, _, _⟩) rfl _ 24 9 5 rfl Tryd.underlying24 Tryd.underlying5 Tryd.underlying9 rfl (HT.out.kp0 HB4.out.kp).r1 ?_
       intro c1 hc1
       have HC1 := Lib.hid hc1
       clear hc1)
    | (go_at_call 61; refine (text_any v4 _ c1 _ HO4.out.rd (by rw [← size_toList c1, HC1.out]; exact HZ.out.2.2.2.1)).mono ?_; rw [HC1.out]; rintro e w5 ⟨v5, rfl, ho, hk⟩; have HO5 := Lib.hid ho; have HB5 := Lib.hid (HB4.out.kp0 hk); clear ho hk HO4 HB4))
  rw [rounds_succ]
  clear y0 y1
  have hc4 := (HB5.out.at 0 rfl).cellV 4 (v := .string t.h) rfl
  go_upto_region 13 with (go_at_call 61; refine (text_any v5 _ t.h _ HO5.out.rd HZ.out.2.2.2.2.1).mono ?_; rintro e w6 ⟨v6, rfl, ho, hk⟩; have HO6 := Lib.hid ho; have HB6 := Lib.hid (HB5.out.kp0 hk); clear ho hk HO5 HB5)
  clear hc4
  have x0 := idx_s0 t.s0 t.s1
  have x1 := idx_s1 t.s0 t.s1
  go_wp2_with (refine wpList_load_mid rfl 45 (.tmp 34) rfl g 5 rfl [.string t.s0, .string t.s1] _ ((HB6.out.at 0 rfl).part 5 rfl) Tryd.underlying45 rfl (by kernel_rfl) ?_)
  refine wp_loop_rounds 3 ?_
  rw [rounds_succ]
  go_wp2_with (go_at_call 61; refine (text_any v6 _ t.s0 _ HO6.out.rd HZ.out.2.2.2.2.2.1).mono ?_; rintro e w7 ⟨v7, rfl, ho, hk⟩; have HO7 := Lib.hid ho; have HB7 := Lib.hid (HB6.out.kp0 hk); clear ho hk HO6 HB6)
  rw [rounds_succ]
  go_wp2_with (go_at_call 61; refine (text_any v7 _ t.s1 _ HO7.out.rd HZ.out.2.2.2.2.2.2.1).mono ?_; rintro e w8 ⟨v8, rfl, ho, hk⟩; have HO8 := Lib.hid ho; have HB8 := Lib.hid (HB7.out.kp0 hk); clear ho hk HO7 HB7)
  rw [rounds_succ]
  clear x0 x1
  have hc7 := (HB8.out.at 0 rfl).cellV 7 (v := sh) rfl
  go_upto_region 19 with (first
    | (go_at_call 63; refine (int_any v8 sh _ t.sh _ HO8.out.rd (HT.out.kp0 HB8.out.kp).r2 HZ.out.2.2.2.2.2.2.2.1).mono ?_; rintro e w9 ⟨v9, rfl, ho, hk⟩; have HO9 := Lib.hid ho; have HB9 := Lib.hid (HB8.out.kp0 hk); clear ho hk HO8 HB8)
    | (go_at_call 62; refine (sum_any v9 (hashIn t) _ (HQ.out.kp0 HB9.out.kp) (HC.out.kp0 HB9.out.kp) HO9.out.rd HZ.out.2.2.2.2.2.2.2.2).mono ?_; rintro e w10 ⟨rfl, hk⟩; have HB10 := Lib.hid (HB9.out.kp0 hk); clear hk HB9)
    | (refine wl_alloc_as asB32 rfl rfl ?_
       intro w11 g4 hw hg
       have HB11 : Hid (Bks w w11 [(g, 48, t.vals i0 i1 sh), (g4, 61, bys zb32)]) := Lib.hid (by rw [hw]; exact HB10.out.push 61 (bys zb32) hg)
       have HG4 : Hid (w.heap.size ≤ g4) := Lib.hid (by rw [hg]; exact HB10.out.kp.size)
       clear hw hg HB10)
    | (refine wl_store_blk rfl 61 (.tmp 10) (.tmp 47) rfl g4 _ (bys zb32) (bys (sha256 (hashIn t))) rfl rfl (HB11.out.at 1 rfl) (infoB32 (sha256_len _)) (len_of (T := 61) (infoB32 (l := zb32) rfl) (infoB32 (sha256_len (hashIn t)))) (bys_onesV _) ?_
       intro w12 hA hK
       have HB12 := Lib.hid (HB11.out.store 1 rfl hA hK)
       clear hA hK HB11))
  simp only [Act.put]
  go_wp2
  go_ret
  exact ⟨g4, rfl, HG4.out, HB12.out.at 1 rfl, HB12.out.kp⟩
end Go.Proofs.YtikjcmhocihmcaaDoor
namespace Go.Proofs.YtikjcmhocihmcaaDoor
open Go Go.RowKit
attribute [local irreducible] sha256 drawB
def namesAll (la : List (List ByteArray)) (k : Nat) : List UInt8 := ((List.range k).map fun i => encNames (la.getD i [])).flatten
theorem namesAll_succ (la : List (List ByteArray)) (k : Nat) : namesAll la (k + 1) = namesAll la k ++ encNames (la.getD k []) := by
  unfold namesAll
  rw [List.range_succ, List.map_append, List.flatten_append]
  simp
theorem encNames_len (l : List ByteArray) : (encNames l).length ≤ wide l + 4 := by
  unfold encNames
  rw [encText_len]
  have := join_wide l
  omega
theorem namesAll_len (la : List (List ByteArray)) : ∀ k, (namesAll la k).length ≤ wideK la k + 4 * k
  | 0 => Nat.zero_le _
  | k + 1 => by
    have h := namesAll_len la k
    have h2 := encNames_len (la.getD k [])
    rw [namesAll_succ, wideK_succ, List.length_append]
    omega
def initH (n : List UInt8) : List UInt8 := [20] ++ n.take 16
def initB (la : List (List ByteArray)) (n : List UInt8) : List UInt8 := initH n ++ namesAll la 8 ++ encNames [] ++ encNames [] ++ [0] ++ be4 0
theorem rd_take {w : World} {g : Nat} {T : TypeId} {l : List UInt8} {n cap : Nat} (h : Blk w g T (bys l)) (hn : n ≤ l.length) (hc : n ≤ cap) (hm : cap ≤ 9223372036854775807 := by decide) : Rd w (.slice (some ⟨g, 0, none⟩) n cap) (bys (l.take n)) := by
  have hl : (bys (l.take n)).length = n := by rw [bys_len, List.length_take]; omega
  refine ⟨some ⟨g, 0, none⟩, cap, by rw [hl], by rw [hl]; exact hc, by unfold maxLen; omega, by simp, fun ad e i u hu => ?_⟩
  cases e
  rw [Addr.add_lit, Nat.zero_add]
  refine h.cellV i ?_
  rw [← hu]
  have hi : i < n := by have := (List.getElem?_eq_some_iff.1 hu).1; omega
  unfold bys
  rw [List.getElem?_map, List.getElem?_map, List.getElem?_take, if_pos hi]
theorem infoL8 {vs : List Value} (h : vs.length = 8) : (Tryd.prog.info? 30).map (·.size) = some vs.length := by
  rw [h]
  kernel_rfl
set_option maxRecDepth 20000 in
set_option maxHeartbeats 8000000 in
theorem init_any (va : List Value) (la : List (List ByteArray)) (s : ByteArray) (w : World) (hq : Sqd w) (hc : Cub w) (ha : Rows8 w va la) (hs : s.size ≤ 140737488351232) (hl : wideK la 8 ≤ 100000000) :
    Calls Tryd.prog 11 #[.agg va.toArray, .string s] w fun e w' => ∃ v, e = .returned v ∧ Own w.heap.size 5 w' v (bys (initB la (drawB s.toList 0))) ∧ Kp0 w w' := by
  have HQ := Lib.hid hq
  have HC := Lib.hid hc
  have HA := Lib.hid ha
  have HS := Lib.hid hs
  have HL := Lib.hid hl
  have HI := Lib.hid (infoL8 ha.1)
  obtain ⟨d, hd⟩ : ∃ d, d = drawB s.toList 0 := ⟨_, rfl⟩
  have HD := Lib.hid hd
  have HDL : Hid (d.length = 32) := Lib.hid (by rw [hd]; exact drawB_len _ _)
  rw [← hd]
  clear hq hc ha hs hl hd
  go_enter Tryd.func11, Tryd.ntmps11
  go_upto_region 1 with (fail)
  have HB1 : Hid (Bks w (w.alloc (.cells va.toArray 30)) [(w.heap.size, 30, va)]) := Lib.hid ((Bks.nil w).push 30 va rfl)
  generalize w.alloc (.cells va.toArray 30) = w1 at HB1 ⊢
  obtain ⟨g, hg⟩ : ∃ x, x = w.heap.size := ⟨_, rfl⟩
  rw [← hg] at HB1 ⊢
  have HG := Lib.hid hg
  clear hg
  go_upto_region 2 with (first
    | (go_at_call 32; refine (draw_any s 0 _ (HQ.out.kp0 HB1.out.kp) (HC.out.kp0 HB1.out.kp) HS.out (by decide)).mono ?_; rw [← HD.out]; rintro e w2 ⟨rfl, hk⟩; have HB2 := Lib.hid (HB1.out.kp0 hk); clear hk HB1)
    | (refine wl_alloc_as asB32 rfl rfl ?_
       intro w3 g4 hw hg4
       have HB3 : Hid (Bks w w3 [(g, 30, va), (g4, 61, bys zb32)]) := Lib.hid (by rw [hw]; exact HB2.out.push 61 (bys zb32) hg4)
       clear hw hg4 HB2)
    | (refine wl_store_blk rfl 61 (.tmp 5) (.tmp 10) rfl g4 _ (bys zb32) (bys d) rfl rfl (HB3.out.at 1 rfl) (infoB32 HDL.out) (len_of (T := 61) (infoB32 (l := zb32) rfl) (infoB32 HDL.out)) (bys_onesV _) ?_
       intro w4 hA hK
       have HB4 := Lib.hid (HB3.out.store 1 rfl hA hK)
       clear hA hK HB3))
  simp only [Act.put]
  have HRT : Hid (Rd w4 (.slice (some ⟨g4, 0, none⟩) 16 32) (bys (d.take 16))) := Lib.hid (rd_take (HB4.out.at 1 rfl) (by rw [HDL.out]; decide) (by decide))
  have HTL : Hid ((bys (d.take 16)).length = 16) := Lib.hid (by rw [bys_len, List.length_take, HDL.out]; rfl)
  go_upto_region 3 with (at_builtin
                         refine wl_append_own rfl _ _ 24 rfl Tryd.underlying24 infoU8 rfl rfl rfl (Own.lit w4 #[.int .u8 20] 5 1 rfl (by decide)) (HRT.out.keep0 ((Kp.refl _ w4).alloc _)) (bys_one _) (by rw [HTL.out]; decide) (by rw [HTL.out]; decide) (by simp) ?_
                         intro v5 w5 ho hgr
                         have HO5 : Hid (Rd w5 v5 (bys (initH d))) := Lib.hid ho.rd
                         have HB5 := Lib.hid (HB4.out.kp0 (((Kp.refl (fun _ => False) w4).alloc _).grown hgr (fun k hk1 hk2 => by have e := Option.some.inj (show some w4.heap.size = some k from hk1); omega)))
                         clear ho hgr)
  go_wp2_with (refine wl_load_blk rfl 30 (.tmp 2) rfl g 30 va rfl (HB5.out.at 0 rfl) _ Tryd.underlying30 rfl HI.out ?_)
  have HLV : Hid (∀ k, k ≤ 8 → (initH d ++ namesAll la k).length ≤ 100000100 ∧ wideK la k ≤ 100000000) := Lib.hid (fun k hk => by
    have h1 := namesAll_len la k
    have h2 := wideK_mono la hk
    have h3 := HL.out
    have h4 := HTL.out
    rw [bys_len] at h4
    unfold initH
    simp only [List.length_append, h4, List.length_cons, List.length_nil]
    omega)
  obtain ⟨hh, hhh⟩ : ∃ x, x = initH d := ⟨_, rfl⟩
  have HH := Lib.hid hhh
  rw [← hhh] at HO5 HLV
  clear hhh HRT HTL HB4
  go_loopw [6, 15] (fun s6 s15 wr => ∃ k : Nat, s15 = .int .i64 k ∧ k ≤ 8 ∧ Hid (Rd wr s6 (bys (hh ++ namesAll la k))) ∧ Hid (Kp0 w5 wr)) (fun _ i _ => 8 - (intOf i).toNat)
  case atStart => exact ⟨0, rfl, Nat.zero_le _, Lib.hid (by rw [show namesAll la 0 = [] from rfl, List.append_nil]; exact HO5.out), Lib.hid (Kp.refl _ _)⟩
  case round =>
    obtain ⟨k, rfl, hk, HR, HKR⟩ := hrel
    by_cases h : k < 8
    · have hk8 : (k : Int) < 8 := by omega
      have hio := run_index_row (P := Tryd.prog) (w := wr) 30 22 8 .i64 va k _ (getD_row (by rw [HA.out.1]; exact h)) Tryd.underlying30 (agg_row _) (size_row _) h
      have AV := (HA.out.kp0 (HB5.out.kp.tr HKR.out)).2.2 k _ (getD_row (by rw [HA.out.1]; exact h))
      have HB := Lib.hid (HLV.out k hk)
      have HBN := Lib.hid (HLV.out (k + 1) h)
      have HN := Lib.hid (namesAll_succ la k)
      have HW := Lib.hid (wideK_succ la k)
      generalize va.getD k undef = av at hio AV
      generalize la.getD k [] = lx at AV HN HW
      have HAV := Lib.hid AV
      have HSZ : Hid ((hh ++ namesAll la k).length + wide lx ≤ 600000000) := Lib.hid (by have h1 := HB.out.1; have h2 := HBN.out.2; have h3 := HW.out; omega)
      clear AV
      go_wp2_with (go_at_call 33; refine (names_any u6 av _ lx _ HR.out HAV.out HSZ.out).mono ?_; rintro e w6 ⟨v6, rfl, ho, hk6⟩; have HO6 := Lib.hid ho.rd; have HK6 := Lib.hid hk6; clear ho hk6)
      go_roundw
      case rel => exact ⟨k + 1, by go_num, by omega, Lib.hid (by rw [HN.out, ← List.append_assoc]; exact HO6.out), Lib.hid (HKR.out.tr HK6.out)⟩
      case measure => simp [intOf]; omega
    · obtain rfl : k = 8 := by omega
      have HB := Lib.hid (HLV.out 8 (Nat.le_refl _))
      have HB6 := Lib.hid (HB5.out.kp0 HKR.out)
      have HW0 : Hid (wide [] = 0) := Lib.hid rfl
      have HE0 : Hid ((encNames []).length = 4) := Lib.hid (by unfold encNames; rw [encText_len]; rfl)
      obtain ⟨P, hP⟩ : ∃ P, P = hh ++ namesAll la 8 := ⟨_, rfl⟩
      have HP := Lib.hid hP
      rw [← hP] at HR HB
      obtain ⟨E, hE⟩ : ∃ E, E = encNames [] := ⟨_, rfl⟩
      have HE := Lib.hid hE
      rw [← hE] at HE0
      clear hP hE
      go_wp2
      refine wp_loop_rounds 3 ?_
      rw [rounds_succ]
      go_wp2_with (go_at_call 33; refine (names_any u6 (.slice none 0 0) P [] _ HR.out (Rd.nil _) (by rw [HW0.out]; have := HB.out.1; omega)).mono ?_; rw [← HE.out]; rintro e w6 ⟨v6, rfl, ho, hk6⟩; have HO6 := Lib.hid ho.rd; have HB7 := Lib.hid (HB6.out.kp0 hk6); clear ho hk6 HR HB6)
      rw [rounds_succ]
      go_wp2_with (go_at_call 33; refine (names_any v6 (.slice none 0 0) (P ++ E) [] _ HO6.out (Rd.nil _) (by rw [HW0.out, List.length_append, HE0.out]; have := HB.out.1; omega)).mono ?_; rw [← HE.out]; rintro e w7 ⟨v7, rfl, ho, hk7⟩; have HO7 := Lib.hid ho.rd; have HB8 := Lib.hid (HB7.out.kp0 hk7); clear ho hk7 HO6 HB7)
      rw [rounds_succ]
      go_wp2_with (first
        | (go_at_call 35; refine (flag_any v7 (P ++ E ++ E) false _ HO7.out (by rw [List.length_append, List.length_append, HE0.out]; have := HB.out.1; omega)).mono ?_; rintro e w8 ⟨v8, rfl, ho, hk8⟩; have HO8 := Lib.hid ho.rd; have HB9 := Lib.hid (HB8.out.kp0 hk8); clear ho hk8 HO7 HB8)
        | (go_at_call 34; refine (u32_any v8 (P ++ E ++ E ++ [if false = true then 1 else 0]) 0 _ HO8.out (by decide) (by rw [List.length_append, List.length_append, List.length_append, HE0.out]; simp only [List.length_cons, List.length_nil]; have := HB.out.1; omega)).mono ?_; rintro e w9 ⟨v9, rfl, ho, hk9⟩; have HO9 := Lib.hid ho; have HB10 := Lib.hid (HB9.out.kp0 hk9); have HSZ9 : Hid (w.heap.size ≤ w8.heap.size) := Lib.hid HB9.out.kp.size; clear ho hk9 HO8 HB9))
      go_ret
      refine ⟨v9, rfl, ?_, HB10.out.kp⟩
      have e : initB la d = P ++ E ++ E ++ [if false = true then 1 else 0] ++ be4 0 := by rw [HP.out, HE.out, HH.out]; rfl
      rw [e]
      exact HO9.out.base HSZ9.out
end Go.Proofs.YtikjcmhocihmcaaDoor
