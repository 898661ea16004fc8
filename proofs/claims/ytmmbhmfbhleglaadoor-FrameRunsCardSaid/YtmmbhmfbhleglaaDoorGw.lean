/- What the program's own variables hold; sizes as digits; encoding. -/
import Derived.Test.YtmmbhmfbhleglaaDoorFrC
import Derived.Test.YtmmbhmfbhleglaaDoorShelf
namespace Go.Proofs.YtmmbhmfbhleglaaDoor
open Go Go.RowKit
structure Gw (w : World) : Prop where
  tab : Lib.TabIs Tryd.prog w "internal/strconv.uint64pow10" .u64 Lib.pow10Tab
  ml : ∃ m, w.cell? ⟨1, 0, none⟩ = some (.int .i64 m)
  es : ∃ te pe, w.cell? ⟨4, 0, none⟩ = some (.iface te pe)
  sz : 6 ≤ w.heap.size
theorem tab_keep {w w' : World} (h : Lib.TabIs Tryd.prog w "internal/strconv.uint64pow10" .u64 Lib.pow10Tab) (hk : w'.heap[0]? = w.heap[0]?) : Lib.TabIs Tryd.prog w' "internal/strconv.uint64pow10" .u64 Lib.pow10Tab := by
  unfold Lib.TabIs World.var? at *
  rw [show Tryd.prog.globalNamed "internal/strconv.uint64pow10" = some 0 by kernel_rfl] at h ⊢
  simp only [Option.bind_some] at h ⊢
  rw [hk]
  exact h
theorem Gw.keep {S : Nat → Prop} {w w' : World} (h : Gw w) (hk : Kp S w w') (hs : ∀ i, i < 6 → ¬ S i) : Gw w' := by
  obtain ⟨m, hm⟩ := h.ml
  obtain ⟨te, pe, he⟩ := h.es
  exact ⟨tab_keep h.tab (hk.block _ (by have := h.sz; omega) (hs _ (by omega))), ⟨m, hk.cell hm (hs _ (by decide))⟩, ⟨te, pe, hk.cell he (hs _ (by decide))⟩, Nat.le_trans h.sz hk.size⟩
theorem Gw.kp0 {w w' : World} (h : Gw w) (hk : Kp0 w w') : Gw w' := h.keep hk (fun _ _ h => h)
theorem Gw.fb {B : Nat} {Z : Nat → Prop} {w w' : World} (h : Gw w) (hk : Kp (FB B Z) w w') (hb : 6 ≤ B) : Gw w' := h.keep hk (fun i hi (h2 : B ≤ i ∧ ¬ Z i) => by omega)
theorem kp_grow (w : World) (os : Array Obj) : Kp0 w (Go.Sort.grow w os) := by
  refine ⟨rfl, rfl, rfl, by simp [Go.Sort.grow], fun k hk _ => ?_⟩
  simp [Go.Sort.grow, Array.getElem?_append_left hk]
theorem kp_bytes (w : World) (e : TypeId) (s : ByteArray) : Kp0 w (Lib.bytesWorld w e s) := by
  have h := (Kp.refl (fun _ => False) w).drew.alloc (.cells (Lib.bytesCells w e s) e)
  refine ⟨h.os, h.tape, h.output, Nat.le_trans h.size ?_, fun k hk hn => ?_⟩
  · simp [Lib.bytesWorld, World.freeze]
  · rw [← h.block k hk hn]
    have hk' : k < w.heap.size := hk
    show ((w.drew.alloc (.cells (Lib.bytesCells w e s) e)).heap.modify w.heap.size _)[k]? = _
    rw [Array.getElem?_modify, if_neg (by omega)]
theorem itoa_any (n : Nat) (w : World) (hg : Gw w) (hn : n ≤ 9223372036854775807) : Calls Tryd.prog 11 #[.int .i64 n] w fun e w' => ∃ t : ByteArray, e = .returned (.string t) ∧ t.toList = Lib.decDigits n ∧ Kp0 w w' := by
  refine (Tryd.strconv_Itoa (n : Int) (by omega) (by omega) w hg.tab).mono ?_
  rintro e w' ⟨rfl, k, os, rfl⟩
  refine ⟨_, rfl, ?_, ((Kp.refl _ w).drewN k).tr (kp_grow _ os)⟩
  rw [ByteArray.toList_mk]
  unfold Lib.itoa
  rw [if_neg (by omega)]
  simp
theorem toList_data' (s : ByteArray) : s.data.toList = s.toList := (ByteArray.toList_eq s).symm
theorem trim_any (t : ByteArray) (w : World) : Calls Tryd.prog 43 #[.string t, .string { data := #[10, 35] }] w fun e w' => (∃ u : ByteArray, e = .returned (.string u) ∧ u.toList = Lib.trimPrefix t.toList [10, 35]) ∧ w = w' := by
  refine (Tryd.strings_TrimPrefix t _ w).mono ?_
  rintro e w' ⟨rfl, rfl⟩
  exact ⟨⟨_, rfl, by rw [ByteArray.toList_mk, toList_data']⟩, rfl⟩
/-- The size that digits tell. -/
def SizePost (t : ByteArray) (w : World) (e : Ending) (w' : World) : Prop := ∃ n : Int, e = .returned (.tuple #[.int .i64 n, .bool (sizeS (Lib.trimPrefix t.toList [10, 35])).isSome]) ∧ (∀ m, sizeS (Lib.trimPrefix t.toList [10, 35]) = some m → n = m) ∧ Kp0 w w'
set_option maxRecDepth 20000 in
set_option maxHeartbeats 1000000 in
theorem sizeOf_any (t : ByteArray) (w : World) (hg : Gw w) (ht : t.size ≤ 18) : Calls Tryd.prog 35 #[.string t] w (SizePost t w) := by
  have HG := Lib.hid hg
  obtain ⟨ds, hds⟩ : ∃ ds, ds = Lib.trimPrefix t.toList [10, 35] := ⟨_, rfl⟩
  have HDS := Lib.hid hds
  have hlen : ds.length ≤ 18 := by
    rw [hds]
    unfold Lib.trimPrefix
    have := size_toList t
    split
    · rw [List.length_drop]; omega
    · omega
  have HL := Lib.hid hlen
  clear hg hds hlen
  cases hS : sizeS ds with
  | some m =>
    obtain ⟨h1, h2, h3⟩ := sizeS_some hS
    have hm : m < 1000000000000000000 := by
      have h4 := decFrom_digits m m (Nat.le_refl _)
      rw [h3] at h4
      exact Lib.decFrom_lt18 h4 HL.out
    have HM : Hid (m ≤ 9223372036854775807) := Lib.hid (by omega)
    have hm2 : (0 : Int) < m := by omega
    have HP : Hid (∀ w', Kp0 w w' → SizePost t w (.returned (.tuple #[.int .i64 m, .bool true])) w') := Lib.hid (fun w' hk => ⟨m, by rw [← HDS.out, hS]; rfl, (fun m' h => by rw [← HDS.out, hS] at h; rw [Option.some.inj h]), hk⟩)
    have H1 := Lib.hid h1
    have H3 := Lib.hid h3
    clear hS h1 h2 h3 hm
    go_enter Tryd.func35, Tryd.ntmps35
    go_wp2_with (go_at_call 43; refine (trim_any t _).mono ?_; rintro e w' ⟨⟨u, rfl, hu⟩, rfl⟩; have HU := Lib.hid (hu.trans HDS.out.symm); clear hu)
    go_at_call 44
    refine (Tryd.strconv_Atoi u m (by have := size_toList u; rw [HU.out] at this; have := HL.out; omega) (by rw [toList_data', HU.out]; exact H1.out) _).mono ?_
    rintro e w1 ⟨rfl, tt, rfl⟩
    have HK1 : Hid (Kp0 w (Lib.bytesWorld w 5 tt)) := Lib.hid (kp_bytes w _ tt)
    generalize Lib.bytesWorld w 5 tt = w1 at HK1 ⊢
    go_wp2_with (go_at_call 11; refine (itoa_any m _ (HG.out.kp0 HK1.out) HM.out).mono ?_; rintro e w2 ⟨v, rfl, hv, hk⟩; have HV : Hid (v = u) := Lib.hid (str_ext (by rw [hv, HU.out]; exact H3.out)); have HK2 := Lib.hid (HK1.out.tr hk); clear hv hk)
    have hvu := HV.out
    subst hvu
    have hvv : (v.toList == v.toList) = true := by simp
    go_wp2
    all_goals go_ret2
    all_goals exact HP.out _ HK2.out
  | none =>
    have HP : Hid (∀ (n : Int) w', Kp0 w w' → SizePost t w (.returned (.tuple #[.int .i64 n, .bool false])) w') := Lib.hid (fun n w' hk => ⟨n, by rw [← HDS.out, hS]; rfl, (fun m' h => by rw [← HDS.out, hS] at h; cases h), hk⟩)
    cases hA : Lib.atoi ds with
    | none =>
      have H1 := Lib.hid hA
      clear hS hA
      go_enter Tryd.func35, Tryd.ntmps35
      go_wp2_with (go_at_call 43; refine (trim_any t _).mono ?_; rintro e w' ⟨⟨u, rfl, hu⟩, rfl⟩; have HU := Lib.hid (hu.trans HDS.out.symm); clear hu)
      go_at_call 44
      obtain ⟨te, pe, he⟩ := HG.out.es
      refine (Tryd.strconv_Atoi_err u (by have := size_toList u; rw [HU.out] at this; have := HL.out; omega) (by rw [toList_data', HU.out]; exact H1.out) (.iface te pe) _ he (.inr ⟨_, _, rfl⟩)).mono ?_
      rintro e w1 ⟨N, rfl, _, _, hb⟩
      have HK1 : Hid (Kp0 w w1) := Lib.hid ((Kp.of_below hb).mono (fun i hi (h : w.heap.size ≤ i) => by omega))
      clear hb he
      go_wp2
      all_goals go_ret2
      all_goals exact HP.out _ _ HK1.out
    | some n =>
      have H1 := Lib.hid hA
      have HN : Hid (0 < n → Lib.itoa n ≠ ds) := Lib.hid (fun hn => sizeS_none hS hA hn)
      have hb1 : n < 1000000000000000000 ∧ -1000000000000000000 < n := by
        obtain ⟨b0, r, rfl, h⟩ := Lib.atoi_cases hA
        have hl := HL.out
        simp only [List.length_cons] at hl
        rcases h with ⟨_, m, _, h, rfl⟩ | ⟨_, m, _, h, rfl⟩ | ⟨_, _, m, h, rfl⟩
        · have := Lib.decFrom_lt18 h (by omega); omega
        · have := Lib.decFrom_lt18 h (by omega); omega
        · have := Lib.decFrom_lt18 h (by simp; omega); omega
      obtain ⟨hb1, hb2⟩ := hb1
      clear hS hA
      by_cases hn : 0 < n
      · obtain ⟨k, rfl⟩ : ∃ k : Nat, n = k := ⟨n.toNat, by omega⟩
        have HM : Hid (k ≤ 9223372036854775807) := Lib.hid (by omega)
        clear hb1 hb2
        go_enter Tryd.func35, Tryd.ntmps35
        go_wp2_with (go_at_call 43; refine (trim_any t _).mono ?_; rintro e w' ⟨⟨u, rfl, hu⟩, rfl⟩; have HU := Lib.hid (hu.trans HDS.out.symm); clear hu)
        go_at_call 44
        refine (Tryd.strconv_Atoi u k (by have := size_toList u; rw [HU.out] at this; have := HL.out; omega) (by rw [toList_data', HU.out]; exact H1.out) _).mono ?_
        rintro e w1 ⟨rfl, tt, rfl⟩
        have HK1 : Hid (Kp0 w (Lib.bytesWorld w 5 tt)) := Lib.hid (kp_bytes w _ tt)
        generalize Lib.bytesWorld w 5 tt = w1 at HK1 ⊢
        have HN2 := Lib.hid (HN.out hn)
        clear HN
        go_wp2_with (go_at_call 11; refine (itoa_any k _ (HG.out.kp0 HK1.out) HM.out).mono ?_; rintro e w2 ⟨v, rfl, hv, hk⟩; have HK2 := Lib.hid (HK1.out.tr hk); have HV : Hid ((v.toList == u.toList) = false) := Lib.hid (by rw [beq_eq_false_iff_ne, hv, HU.out]; intro h; exact HN2.out (by unfold Lib.itoa; rw [if_neg (by omega)]; simpa using h)); clear hv hk)
        have hvv := HP.out k w2 HK2.out
        rw [← HV.out] at hvv
        all_goals go_ret2
        all_goals exact hvv
      · clear hb1 hb2
        go_enter Tryd.func35, Tryd.ntmps35
        go_wp2_with (go_at_call 43; refine (trim_any t _).mono ?_; rintro e w' ⟨⟨u, rfl, hu⟩, rfl⟩; have HU := Lib.hid (hu.trans HDS.out.symm); clear hu)
        go_at_call 44
        refine (Tryd.strconv_Atoi u n (by have := size_toList u; rw [HU.out] at this; have := HL.out; omega) (by rw [toList_data', HU.out]; exact H1.out) _).mono ?_
        rintro e w1 ⟨rfl, tt, rfl⟩
        have HK1 : Hid (Kp0 w (Lib.bytesWorld w 5 tt)) := Lib.hid (kp_bytes w _ tt)
        generalize Lib.bytesWorld w 5 tt = w1 at HK1 ⊢
        clear HN
        go_wp2
        all_goals go_ret2
        all_goals exact HP.out _ _ HK1.out
end Go.Proofs.YtmmbhmfbhleglaaDoor
