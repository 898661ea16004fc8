/- The law KexFirst: its walk. -/
import Derived.Test.YtcbkaamcjogbgaaDoorKxM
namespace Go.Proofs.YtcbkaamcjogbgaaDoor
open Go Go.RowKit
attribute [local irreducible] sha256 drawB
theorem hasS_one (o x : ByteArray) : hasS [o] x = (x.toList == o.toList) := by simp [hasS]
theorem firstS_behind {o : ByteArray} : ∀ {m : List ByteArray}, (∀ s ∈ m, (s.toList == o.toList) = false) → firstS (m ++ [o]) [o] = some o
  | [], _ => by unfold firstS; rw [List.nil_append, List.find?_cons_of_pos (by rw [hasS_one]; simp)]
  | x :: m, h => by
    have h1 : hasS [o] x = false := by rw [hasS_one]; exact h x (by simp)
    have ih := firstS_behind (o := o) (m := m) (fun s hs => h s (by simp [hs]))
    unfold firstS at ih ⊢
    rw [List.cons_append, List.find?_cons_of_neg (by simp [h1])]
    exact ih
theorem hasS_mem {x : ByteArray} {l : List ByteArray} (h : x ∈ l) : hasS l x = true := List.any_eq_true.2 ⟨x, h, by simp⟩
theorem firstS_in {o : ByteArray} {l : List ByteArray} (h : o ∈ l) : firstS [o] l = some o := by
  unfold firstS
  rw [List.find?_cons_of_pos (hasS_mem h)]
theorem firstS_head {x : ByteArray} {m l : List ByteArray} (h : x ∈ l) : firstS (x :: m) l = some x := by
  unfold firstS
  rw [List.find?_cons_of_pos (hasS_mem h)]
/-- Own's offer with another row. -/
def ownW (at_ : Nat) (l : List ByteArray) : List (List ByteArray) := ownS.set at_ l
theorem ownW_eq {k : Nat} {l : List ByteArray} (h : k < 8) : (ownW k l).getD k [] = l := getD_set_eq (by show k < 8; exact h)
theorem ownW_ne {k i : Nat} {l : List ByteArray} (h : i ≠ k) : (ownW k l).getD i [] = ownS.getD i [] := getD_set_ne h
theorem okK_other {k i : Nat} {l m : List ByteArray} (hi : i < 8) (h : i ≠ k) : okK (ownW k l) (ownW k m) i = true := by
  obtain ⟨o, ho⟩ := own_head i hi
  rw [okK_eq, ownW_ne h, ownW_ne h, ho]
  exact okS_self o
theorem agreeK_one {la lb : List (List ByteArray)} {k : Nat} (hk : k < 8) (h : ∀ i, i < 8 → i ≠ k → okK la lb i = true) : agreeK la lb 8 = okK la lb k := by
  cases e : okK la lb k
  · exact agreeK_no e hk
  · unfold agreeK
    rw [List.all_eq_true]
    intro i hi
    have hi8 : i < 8 := List.mem_range.1 hi
    by_cases hik : i = k
    · subst hik; exact e
    · exact h i hi8 hik
theorem own_self (k : Nat) : ownW k (ownS.getD k []) = ownS := by
  unfold ownW
  by_cases h : k < ownS.length
  · rw [List.getD_eq_getElem?_getD, List.getElem?_eq_getElem h, Option.getD_some, List.set_getElem_self]
  · rw [List.set_eq_of_length_le (by omega)]
theorem first_e {k : Nat} {o : ByteArray} {m : List ByteArray} (hk : k < 8) (ho : ownS.getD k [] = [o]) (hm : ∀ s ∈ m, (s.toList == o.toList) = false) : agreeR (ownW k (m ++ [o])) ownS = 0 := by
  have e := own_self k
  rw [ho] at e
  rw [← e]
  refine agreeR_yes ?_
  rw [e]
  conv => lhs; rw [← e]
  rw [agreeK_one hk (fun i hi h => okK_other hi h), okK_eq, ownW_eq hk, ownW_eq hk, ho, okS_some (firstS_behind hm)]
  simp
theorem first_f {k : Nat} {o : ByteArray} {m : List ByteArray} (hk : k < 8) (ho : ownS.getD k [] = [o]) : agreeR ownS (ownW k (m ++ [o])) = 0 := by
  have e := own_self k
  rw [ho] at e
  refine agreeR_yes ?_
  conv => lhs; rw [← e]
  rw [agreeK_one hk (fun i hi h => okK_other hi h), okK_eq, ownW_eq hk, ownW_eq hk, ho, okS_some (firstS_in (by simp))]
  simp
theorem first_g {k : Nat} {o : ByteArray} {m l : List ByteArray} (hk : k < 8) (ho : ownS.getD k [] = [o]) (hm : ∀ s ∈ m, (s.toList == o.toList) = false) (hl : ∀ s ∈ m ++ [o], s ∈ l) : agreeR (ownW k (m ++ [o])) (ownW k l) = if m = [] then 0 else 7 := by
  have e0 : agreeK (ownW k (m ++ [o])) (ownW k l) 8 = okS (m ++ [o]) l [o] := by
    rw [agreeK_one hk (fun i hi h => okK_other hi h), okK_eq, ownW_eq hk, ownW_eq hk, ho]
  cases m with
  | nil =>
    rw [if_pos rfl]
    refine agreeR_yes ?_
    rw [e0, List.nil_append, okS_some (firstS_in (hl o (by simp)))]
    simp
  | cons x m =>
    rw [if_neg (by simp)]
    refine agreeR_no ?_
    rw [e0, List.cons_append, okS_some (firstS_head (hl x (by simp)))]
    exact hm x (by simp)
theorem mod_posB (n : Int) (d : Nat) (hd : 0 < d) : ∃ (q : Int) (m : Nat), n.tmod (d : Int) = q ∧ -(d : Int) < q ∧ q < d ∧ (q + (d : Int)).tmod (d : Int) = (m : Int) ∧ (q + (d : Int)) % (d : Int) = (m : Int) ∧ m < d := by
  have hk : (0 : Int) < (d : Int) := by omega
  have h1 : n.tmod (d : Int) < (d : Int) := Int.tmod_lt_of_pos n hk
  have h2 : -(d : Int) < n.tmod (d : Int) := by
    have := Int.tmod_lt_of_pos (-n) hk
    rw [Int.neg_tmod] at this
    omega
  have h3 : 0 ≤ n.tmod (d : Int) + (d : Int) := by omega
  have h4 := Int.emod_nonneg (n.tmod (d : Int) + (d : Int)) (by omega : (d : Int) ≠ 0)
  have h5 := Int.emod_lt_of_pos (n.tmod (d : Int) + (d : Int)) hk
  refine ⟨_, ((n.tmod (d : Int) + (d : Int)) % (d : Int)).toNat, rfl, by omega, by omega, ?_, by omega, by omega⟩
  rw [Int.tmod_eq_emod_of_nonneg h3]
  omega
theorem infoStr2 : (Tryd.prog.info? 9).map (fun i => (i.zero, i.size, i.bytes)) = some (some (.string .empty), 1, 16) := by kernel_rfl
theorem strs_ones (l : List ByteArray) : ∀ u ∈ strs l, u.oneCell' = true := by
  intro u hu
  obtain ⟨x, _, rfl⟩ := List.mem_map.1 hu
  rfl
theorem rows_lt {w : World} {vs : List Value} (h : Rows8 w vs ownS) {Z : Nat → Prop} (hZ : ∀ g, Z g → w.heap.size ≤ g) : RowsN Z w vs ownS := by
  refine ⟨h.1, h.2.1, fun i v hv => ⟨h.2.2 i v hv, fun g hg hz => ?_⟩⟩
  have hi : i < 8 := by have := (List.getElem?_eq_some_iff.1 hv).1; have := h.1; omega
  obtain ⟨o, ho⟩ := own_head i hi
  have hr := h.2.2 i v hv
  rw [ho] at hr
  have := hr.there (by simp [strs]) g hg
  have := hZ g hz
  omega
theorem Own.sl {B : Nat} {e : TypeId} {w : World} {v : Value} {xs : List Value} (h : Own B e w v xs) : ∃ a n c, v = .slice a n c := by
  obtain ⟨ao, cap, e, _⟩ := h.rd.shape
  exact ⟨_, _, _, e⟩
set_option maxRecDepth 20000 in
set_option maxHeartbeats 8000000 in
theorem kfirst_walk (a0 : Int) (v1 : Value) (l1 : List ByteArray) (a2 : Bool) (w : World) (hq : Sqd w) (hc : Cub w) (hg : Gm w) (hv : Rd w v1 (strs l1)) (hsz : ∀ x ∈ l1, x.size ≤ 140737488351232) :
    Calls Tryd.prog 8 #[.int .i64 a0, v1, .bool a2] w fun e w' => e = .returned (.bool true) ∧ Kp0 w w' := by
  have HQ := Lib.hid hq
  have HC := Lib.hid hc
  have HG := Lib.hid hg
  have HV := Lib.hid hv
  have HX := Lib.hid hsz
  obtain ⟨ao, cap, rfl, -, -, -⟩ := hv.shapeS
  obtain ⟨q, k, q1, q2, q3, q4, q5, hk⟩ := mod_posB a0 8 (by decide)
  have hk8 : (k : Int) < 8 := by omega
  have HE : Hid ((RowKit.wrap64 (a0.tmod 8 + 8)).tmod 8 = (k : Int)) := Lib.hid (by
    have e1 : a0.tmod 8 = q := q1
    have e2 : (q + 8).tmod 8 = (k : Int) := q4
    have e3 : RowKit.wrap64 (q + 8) = q + 8 := by unfold RowKit.wrap64; omega
    rw [e1, e3, e2])
  clear hq hc hg hv hsz q1 q2 q3 q4 q5
  go_enter Tryd.func8, Tryd.ntmps8
  go_upto_region 3 with (go_at_call 9; refine (fit_any _ HQ.out HC.out HG.out).mono ?_; rintro e w1 ⟨rfl, hk1⟩; have HK1 := Lib.hid hk1; clear hk1)
  by_cases hbig : 10 < l1.length
  · have i1 : (10 : Int) < (l1.length : Int) := by omega
    go_wp2
    go_ret
    exact ⟨rfl, HK1.out⟩
  · have i1 : ¬ (10 : Int) < (l1.length : Int) := by omega
    have HN10 := Lib.hid hbig
    clear hbig
    obtain ⟨o, ho⟩ := own_head k hk
    have HO := Lib.hid ho
    clear ho
    go_upto_region 7 with (first
      | (go_at_call 31; refine (own_any w1).mono ?_; rintro e w2 ⟨va, rfl, hro, hk2⟩; have HRA := Lib.hid hro; have HK2 := Lib.hid (HK1.out.tr hk2); clear hro hk2 HK1)
      | (go_at_call 31; refine (own_any w2).mono ?_; rintro e w3 ⟨vb, rfl, hro, hk3⟩; have HRB := Lib.hid hro; have HRA3 := Lib.hid (HRA.out.kp0 hk3); have HK3 := Lib.hid (HK2.out.tr hk3); clear hro hk3 HK2 HRA)
      | (refine wl_alloc_as asL8 rfl rfl ?_
         intro w4 g7 hw hg7
         have HB4 : Hid (Bks w3 w4 [(g7, 30, nil8)]) := Lib.hid (by rw [hw]; exact (Bks.nil w3).push 30 nil8 hg7)
         have HG7 : Hid (g7 = w3.heap.size) := Lib.hid hg7
         clear hw hg7)
      | (refine wl_alloc_as asL8 rfl rfl ?_
         intro w5 g8 hw hg8
         have HB5 : Hid (Bks w3 w5 [(g7, 30, nil8), (g8, 30, nil8)]) := Lib.hid (by rw [hw]; exact HB4.out.push 30 nil8 hg8)
         have HG8 : Hid (w3.heap.size + 1 ≤ g8) := Lib.hid (by have := (HB4.out.at 0 rfl).lt; have := HG7.out; omega)
         clear hw hg8 HB4)
      | (refine wl_store_blk rfl 30 (.tmp 7) (.tmp 24) rfl g7 _ nil8 va rfl rfl (HB5.out.at 0 rfl) (infoL8 HRA3.out.1) HRA3.out.1.symm HRA3.out.ones ?_
         intro w6 hA hK
         have HB6 := Lib.hid (HB5.out.store 0 rfl hA hK)
         clear hA hK HB5)
      | (refine wl_store_blk rfl 30 (.tmp 8) (.tmp 25) rfl g8 _ nil8 vb rfl rfl (HB6.out.at 1 rfl) (infoL8 HRB.out.1) HRB.out.1.symm HRB.out.ones ?_
         intro w7 hA hK
         have HB7 := Lib.hid (HB6.out.store 1 rfl hA hK)
         clear hA hK HB6))
    simp only [Act.put]
    rw [HE.out]
    clear HE
    have HNZ : Hid (¬ g7 = g8 ∧ w3.heap.size ≤ g7 ∧ w3.heap.size ≤ g8 ∧ w.heap.size ≤ g7 ∧ w.heap.size ≤ g8) := Lib.hid (by have := HG7.out; have := HG8.out; have := HK3.out.size; exact ⟨by omega, by omega, by omega, by omega, by omega⟩)
    have HZL : Hid (∀ g, g = g7 ∨ g = g8 → w3.heap.size ≤ g) := Lib.hid (fun g h => by rcases h with rfl | rfl; exact HNZ.out.2.1; exact HNZ.out.2.2.1)
    have HN7 := Lib.hid ((rows_lt HRA3.out HZL.out).keep (S := fun _ => False) HB7.out.kp (fun _ h => h.elim))
    have HN8 := Lib.hid ((rows_lt HRB.out HZL.out).keep (S := fun _ => False) HB7.out.kp (fun _ h => h.elim))
    have H7 := Lib.hid (HB7.out.at 0 rfl)
    have H8 := Lib.hid (HB7.out.at 1 rfl)
    have HK7 := Lib.hid (HK3.out.tr HB7.out.kp)
    clear HB7 HRA3 HRB HK3
    have hc7 := H7.out.cellV k (getD_row (by rw [HN7.out.1]; exact hk))
    have OV := (HN7.out.2.2 k _ (getD_row (by rw [HN7.out.1]; exact hk))).1
    rw [HO.out] at OV
    generalize va.getD k undef = ov at hc7 OV
    obtain ⟨ob, oo, oc, rfl, -, -, ocell⟩ := OV.posS (l := [o]) (by simp)
    have hoc := ocell 0 (by simp)
    simp only [Nat.add_zero, List.getElem_cons_zero] at hoc
    clear OV ocell
    have HV7 := Lib.hid (HV.out.keep0 HK7.out)
    go_wp2
    go_loopw [33] (fun i wr => ∃ kk : Nat, i = .int .i64 kk ∧ kk ≤ l1.length ∧ Hid (∀ s ∈ l1.take kk, (s.toList == o.toList) = false) ∧ wr = w7) (fun i _ => l1.length - (intOf i).toNat)
    case atStart => exact ⟨0, rfl, Nat.zero_le _, Lib.hid (fun s hs => by simp at hs), rfl⟩
    case round =>
      obtain ⟨kk, rfl, hkk, HNE, rfl⟩ := hrel
      have RX := HV7.out
      by_cases hl : kk < l1.length
      · obtain ⟨b1, o1, d1, e1, _, _, cell1⟩ := RX.posS (by omega)
        simp only [Value.slice.injEq] at e1
        obtain ⟨rfl, _, rfl⟩ := e1
        have ck1 := cell1 kk hl
        obtain ⟨x, hx⟩ : ∃ x, x = l1[kk]'hl := ⟨_, rfl⟩
        rw [← hx] at ck1
        have HXX := Lib.hid hx
        have j1 : (kk : Int) < (l1.length : Int) := by omega
        clear cell1 RX hx
        by_cases hb30 : 30 < x.size
        · have j2 : (30 : Int) < (x.size : Int) := by omega
          go_wp2
          go_ret
          exact ⟨rfl, HK7.out⟩
        · have j2 : ¬ (30 : Int) < (x.size : Int) := by omega
          cases hb : (x.toList == o.toList)
          · have HBB := Lib.hid hb
            go_wp2
            go_roundw
            case rel => exact ⟨kk + 1, by go_num, by omega, Lib.hid (fun s hs => by
              rw [List.take_succ_eq_append_getElem hl, ← HXX.out] at hs
              rcases List.mem_append.1 hs with h1 | h1
              · exact HNE.out s h1
              · rw [List.mem_singleton.1 h1]; exact HBB.out), trivial⟩
            case measure => simp [intOf]; omega
          · go_wp2
            go_ret
            exact ⟨rfl, HK7.out⟩
      · have HM : Hid (∀ s ∈ l1, (s.toList == o.toList) = false) := Lib.hid (by have := HNE.out; rwa [List.take_of_length_le (by omega)] at this)
        clear RX HNE
        go_upto_region 15 with (first
          | (at_builtin
             refine wl_append_own (v := .slice none 0 0) rfl _ _ 22 rfl Tryd.underlying22 infoStr2 rfl rfl rfl (Own.nil wr.heap.size 9 wr) HV7.out (strs_ones _) (by rw [strs_len]; have := HN10.out; simp only [List.length_nil]; unfold maxLen; omega) (by rw [strs_len]; have := HN10.out; simp only [List.length_nil]; omega) (Nat.le_refl _) ?_
             intro sa7 wa7 ho hgr
             have HOA7 := Lib.hid ho
             have HKA7 : Hid (Kp0 wr wa7) := Lib.hid ((Kp.refl _ _).grown hgr (by simp [Value.ownBlock]))
             clear ho hgr)
          | (at_builtin
             refine wl_append_own (v := sa7) rfl _ _ 22 rfl Tryd.underlying22 infoStr2 rfl rfl rfl (HOA7.out.keep0 ((Kp.refl _ wa7).alloc _)) (Rd.lit wa7 #[.string o] 9 (0, 0) 1 rfl (by decide)) (strs_ones [o]) (by simp only [List.nil_append, strs_len, List.length_cons, List.length_nil]; have := HN10.out; unfold maxLen; omega) (by simp only [List.nil_append, strs_len, List.length_cons, List.length_nil]; have := HN10.out; omega) (by have := HKA7.out.size; simp; omega) ?_
             intro sb7 wb7 ho hgr
             obtain ⟨sba7, sbn7, sbc7, rfl⟩ := ho.sl
             have HOB7 : Hid (Own wr.heap.size 9 wb7 (.slice sba7 sbn7 sbc7) (strs (l1 ++ [o]))) := Lib.hid (by simpa [strs] using ho)
             have HLA7 := Lib.hid (HOA7.out.lt)
             have HKB7 : Hid (Kp0 wr wb7) := Lib.hid ((HKA7.out.alloc _).grown hgr (fun g hg1 hg2 => by have := HLA7.out g hg1; omega))
             have hcs7 := (H7.out.kp0 HKB7.out).cellV k (getD_row (by rw [HN7.out.1]; exact hk))
             have hfs7 := blk_frozen (H7.out.kp0 HKB7.out) k
             clear ho hgr))
        clear hc7 hoc
        have HST7 : Hid (Kp (fun b => b = g7) wb7 (wb7.setCell ⟨g7, k, none⟩ (.slice sba7 sbn7 sbc7))) := Lib.hid ((Kp.refl (fun b => b = g7) wb7).setCell (p := ⟨g7, k, none⟩) (fun _ => rfl) _)
        have H7n7 : Hid (Blk (wb7.setCell ⟨g7, k, none⟩ (.slice sba7 sbn7 sbc7)) g7 30 (va.set k (.slice sba7 sbn7 sbc7))) := Lib.hid ((H7.out.kp0 HKB7.out).set' k _)
        have H8n7 : Hid (Blk (wb7.setCell ⟨g7, k, none⟩ (.slice sba7 sbn7 sbc7)) g8 30 vb) := Lib.hid ((H8.out.kp0 HKB7.out).keep HST7.out (fun e => HNZ.out.1 e.symm))
        have HLT7 : Hid (g7 < wr.heap.size ∧ g8 < wr.heap.size) := Lib.hid (by first | exact ⟨H7.out.lt, H8.out.lt⟩ | exact ⟨H8.out.lt, H7.out.lt⟩)
        have HN7n7 : Hid (RowsN (fun g => g = g7 ∨ g = g8) (wb7.setCell ⟨g7, k, none⟩ (.slice sba7 sbn7 sbc7)) (va.set k (.slice sba7 sbn7 sbc7)) (List.set ownS k (l1 ++ [o]))) := Lib.hid (((HN7.out.keep (S := fun _ => False) HKB7.out (fun _ h => h.elim)).set k hk HOB7.out.rd (fun b hb hz => by have := (HOB7.out.lt b hb).1; have := HLT7.out; rcases hz with rfl | rfl <;> omega)).keep HST7.out (fun g hg => .inl hg))
        have HN8n7 : Hid (RowsN (fun g => g = g7 ∨ g = g8) (wb7.setCell ⟨g7, k, none⟩ (.slice sba7 sbn7 sbc7)) vb ownS) := Lib.hid ((HN8.out.keep (S := fun _ => False) HKB7.out (fun _ h => h.elim)).keep HST7.out (fun g hg => .inl hg))
        have HKn7 : Hid (Kp0 w (wb7.setCell ⟨g7, k, none⟩ (.slice sba7 sbn7 sbc7))) := Lib.hid ((HK7.out.tr HKB7.out).trans HST7.out (fun _ _ h => h) (fun i hi h => by have := HNZ.out.2.2.2.1; omega))
        generalize wb7.setCell ⟨g7, k, none⟩ (.slice sba7 sbn7 sbc7) = w14 at H7n7 H8n7 HN7n7 HN8n7 HKn7 ⊢
        clear HST7 HLT7
        clear hcs7 hfs7 HOA7 HOB7 HLA7 HKA7 HKB7
        generalize va.set k (.slice sba7 sbn7 sbc7) = vA at H7n7 HN7n7
        have HEE : Hid (agreeR (List.set ownS k (l1 ++ [o])) ownS = 0) := Lib.hid (first_e hk HO.out HM.out)
        have HFF : Hid (agreeR ownS (List.set ownS k (l1 ++ [o])) = 0) := Lib.hid (first_f hk HO.out)
        clear H7 H8 HN7 HN8 HK7
        go_upto_region 17 with (first
          | (refine wl_load_blk rfl 30 (.tmp 7) rfl g7 30 (vA) rfl H7n7.out _ Tryd.underlying30 rfl (infoL8 HN7n7.out.1) ?_)
          | (refine wl_load_blk rfl 30 (.tmp 8) rfl g8 30 (vb) rfl H8n7.out _ Tryd.underlying30 rfl (infoL8 HN8n7.out.1) ?_)
          | (go_at_call 16
             refine (agree_any vA vb _ _ _ HN7n7.out.rows HN8n7.out.rows).mono ?_
             rw [HEE.out]
             rintro e w15 ⟨rfl, hk5⟩
             have H7p := Lib.hid (H7n7.out.kp0 hk5)
             have H8p := Lib.hid (H8n7.out.kp0 hk5)
             have HN7p := Lib.hid (HN7n7.out.keep (S := fun _ => False) hk5 (fun _ h => h.elim))
             have HN8p := Lib.hid (HN8n7.out.keep (S := fun _ => False) hk5 (fun _ h => h.elim))
             have HKp := Lib.hid (HKn7.out.tr hk5)
             clear hk5 H7n7 H8n7 HN7n7 HN8n7 HKn7 HEE)
          | (refine wl_load_blk rfl 30 (.tmp 7) rfl g7 30 (vA) rfl H7p.out _ Tryd.underlying30 rfl (infoL8 HN7p.out.1) ?_)
          | (refine wl_load_blk rfl 30 (.tmp 8) rfl g8 30 (vb) rfl H8p.out _ Tryd.underlying30 rfl (infoL8 HN8p.out.1) ?_)
          | (go_at_call 16
             refine (agree_any vb vA _ _ _ HN8p.out.rows HN7p.out.rows).mono ?_
             rw [HFF.out]
             rintro e w16 ⟨rfl, hk6⟩
             have H7 := Lib.hid (H7p.out.kp0 hk6)
             have H8 := Lib.hid (H8p.out.kp0 hk6)
             have HN7 := Lib.hid (HN7p.out.keep (S := fun _ => False) hk6 (fun _ h => h.elim))
             have HN8 := Lib.hid (HN8p.out.keep (S := fun _ => False) hk6 (fun _ h => h.elim))
             have HK7 := Lib.hid (HKp.out.tr hk6)
             clear hk6 H7p H8p HN7p HN8p HKp HFF))
        have HV8 := Lib.hid (HV.out.keep0 HK7.out)
        clear HV7
        have hb16 := True.intro
        cases a2
        · clear hb16
          go_upto_region 20 with (first
                    | (at_builtin
                       refine wl_append_own (v := .slice none 0 0) rfl _ _ 22 rfl Tryd.underlying22 infoStr2 rfl rfl rfl (Own.nil w16.heap.size 9 w16) HV8.out (strs_ones _) (by rw [strs_len]; have := HN10.out; simp only [List.length_nil]; unfold maxLen; omega) (by rw [strs_len]; have := HN10.out; simp only [List.length_nil]; omega) (Nat.le_refl _) ?_
                       intro sa8 wa8 ho hgr
                       have HOA8 := Lib.hid ho
                       have HKA8 : Hid (Kp0 w16 wa8) := Lib.hid ((Kp.refl _ _).grown hgr (by simp [Value.ownBlock]))
                       clear ho hgr)
                    | (at_builtin
                       refine wl_append_own (v := sa8) rfl _ _ 22 rfl Tryd.underlying22 infoStr2 rfl rfl rfl (HOA8.out.keep0 ((Kp.refl _ wa8).alloc _)) (Rd.lit wa8 #[.string o] 9 (0, 0) 1 rfl (by decide)) (strs_ones [o]) (by simp only [List.nil_append, strs_len, List.length_cons, List.length_nil]; have := HN10.out; unfold maxLen; omega) (by simp only [List.nil_append, strs_len, List.length_cons, List.length_nil]; have := HN10.out; omega) (by have := HKA8.out.size; simp; omega) ?_
                       intro sb8 wb8 ho hgr
                       obtain ⟨sba8, sbn8, sbc8, rfl⟩ := ho.sl
                       have HOB8 : Hid (Own w16.heap.size 9 wb8 (.slice sba8 sbn8 sbc8) (strs (l1 ++ [o]))) := Lib.hid (by simpa [strs] using ho)
                       have HLA8 := Lib.hid (HOA8.out.lt)
                       have HKB8 : Hid (Kp0 w16 wb8) := Lib.hid ((HKA8.out.alloc _).grown hgr (fun g hg1 hg2 => by have := HLA8.out g hg1; omega))
                       have hcs8 := (H8.out.kp0 HKB8.out).cellV k (getD_row (by rw [HN8.out.1]; exact hk))
                       have hfs8 := blk_frozen (H8.out.kp0 HKB8.out) k
                       clear ho hgr HOA8 HLA8 HKA8))
          have HST8 : Hid (Kp (fun b => b = g8) wb8 (wb8.setCell ⟨g8, k, none⟩ (.slice sba8 sbn8 sbc8))) := Lib.hid ((Kp.refl (fun b => b = g8) wb8).setCell (p := ⟨g8, k, none⟩) (fun _ => rfl) _)
          have H8n8 : Hid (Blk (wb8.setCell ⟨g8, k, none⟩ (.slice sba8 sbn8 sbc8)) g8 30 (vb.set k (.slice sba8 sbn8 sbc8))) := Lib.hid ((H8.out.kp0 HKB8.out).set' k _)
          have H7n8 : Hid (Blk (wb8.setCell ⟨g8, k, none⟩ (.slice sba8 sbn8 sbc8)) g7 30 vA) := Lib.hid ((H7.out.kp0 HKB8.out).keep HST8.out HNZ.out.1)
          have HLT8 : Hid (g7 < w16.heap.size ∧ g8 < w16.heap.size) := Lib.hid (by first | exact ⟨H8.out.lt, H7.out.lt⟩ | exact ⟨H7.out.lt, H8.out.lt⟩)
          have HN8n8 : Hid (RowsN (fun g => g = g7 ∨ g = g8) (wb8.setCell ⟨g8, k, none⟩ (.slice sba8 sbn8 sbc8)) (vb.set k (.slice sba8 sbn8 sbc8)) (List.set ownS k (l1 ++ [o]))) := Lib.hid (((HN8.out.keep (S := fun _ => False) HKB8.out (fun _ h => h.elim)).set k hk HOB8.out.rd (fun b hb hz => by have := (HOB8.out.lt b hb).1; have := HLT8.out; rcases hz with rfl | rfl <;> omega)).keep HST8.out (fun g hg => .inr hg))
          have HN7n8 : Hid (RowsN (fun g => g = g7 ∨ g = g8) (wb8.setCell ⟨g8, k, none⟩ (.slice sba8 sbn8 sbc8)) vA (List.set ownS k (l1 ++ [o]))) := Lib.hid ((HN7.out.keep (S := fun _ => False) HKB8.out (fun _ h => h.elim)).keep HST8.out (fun g hg => .inr hg))
          have HKn8 : Hid (Kp0 w (wb8.setCell ⟨g8, k, none⟩ (.slice sba8 sbn8 sbc8))) := Lib.hid ((HK7.out.tr HKB8.out).trans HST8.out (fun _ _ h => h) (fun i hi h => by have := HNZ.out.2.2.2.2; omega))
          generalize wb8.setCell ⟨g8, k, none⟩ (.slice sba8 sbn8 sbc8) = w18 at H8n8 H7n8 HN8n8 HN7n8 HKn8 ⊢
          clear HST8 HLT8
          clear hcs8 hfs8 HOB8 HKB8
          generalize vb.set k (.slice sba8 sbn8 sbc8) = vB at H8n8 HN8n8
          have HGG : Hid (agreeR (List.set ownS k (l1 ++ [o])) (List.set ownS k (l1 ++ [o])) = if l1 = [] then 0 else 7) := Lib.hid (first_g hk HO.out HM.out (fun s h => h))
          by_cases hz : l1 = []
          · have hlen : l1.length = 0 := by rw [hz]; rfl
            have hli : (l1.length : Int) = 0 := by omega
            rw [if_pos hz] at HGG
            clear hz
            go_wp2_with (first
              | (refine wl_load_blk rfl 30 (.tmp 7) rfl g7 30 (vA) rfl H7n8.out _ Tryd.underlying30 rfl (infoL8 HN7n8.out.1) ?_)
              | (refine wl_load_blk rfl 30 (.tmp 8) rfl g8 30 (vB) rfl H8n8.out _ Tryd.underlying30 rfl (infoL8 HN8n8.out.1) ?_)
              | (go_at_call 16
                 refine (agree_any vA vB _ _ _ HN7n8.out.rows HN8n8.out.rows).mono ?_
                 rw [HGG.out]
                 rintro e w19 ⟨rfl, hk9⟩
                 have HK19 := Lib.hid (HKn8.out.tr hk9)
                 clear hk9))
            go_ret
            exact ⟨rfl, HK19.out⟩
          · have hlen : ¬ l1.length = 0 := fun e => hz (List.eq_nil_of_length_eq_zero e)
            have hli : ((l1.length : Int) == 0) = false := by rw [beq_eq_false_iff_ne]; omega
            rw [if_neg hz] at HGG
            clear hz hlen
            go_wp2_with (first
              | (refine wl_load_blk rfl 30 (.tmp 7) rfl g7 30 (vA) rfl H7n8.out _ Tryd.underlying30 rfl (infoL8 HN7n8.out.1) ?_)
              | (refine wl_load_blk rfl 30 (.tmp 8) rfl g8 30 (vB) rfl H8n8.out _ Tryd.underlying30 rfl (infoL8 HN8n8.out.1) ?_)
              | (go_at_call 16
                 refine (agree_any vA vB _ _ _ HN7n8.out.rows HN8n8.out.rows).mono ?_
                 rw [HGG.out]
                 rintro e w19 ⟨rfl, hk9⟩
                 have HK19 := Lib.hid (HKn8.out.tr hk9)
                 clear hk9))
            go_ret
            exact ⟨rfl, HK19.out⟩
        · clear hb16
          go_upto_region 20 with (first
            | (at_builtin
               refine wl_append_own (v := .slice (some ⟨w16.heap.size, 0, none⟩) 1 1) rfl _ _ 22 rfl Tryd.underlying22 infoStr2 rfl rfl rfl (Own.lit w16 #[.string o] 9 1 rfl (by decide)) (HV8.out.keep0 ((Kp.refl _ w16).alloc _)) (strs_ones _) (by rw [strs_len]; have := HN10.out; simp only [List.length_cons, List.length_nil]; unfold maxLen; omega) (by rw [strs_len]; have := HN10.out; simp only [List.length_cons, List.length_nil]; omega) (by simp) ?_
               intro sb8 wb8 ho hgr
               obtain ⟨sba8, sbn8, sbc8, rfl⟩ := ho.sl
               have HOB8 : Hid (Own w16.heap.size 9 wb8 (.slice sba8 sbn8 sbc8) (strs (o :: l1))) := Lib.hid (by simpa [strs] using ho)
               have HKB8 : Hid (Kp0 w16 wb8) := Lib.hid (((Kp.refl (fun _ => False) w16).alloc _).grown hgr (fun g hg1 hg2 => by have e := Option.some.inj (show some w16.heap.size = some g from hg1); omega))
               have hcs8 := (H8.out.kp0 HKB8.out).cellV k (getD_row (by rw [HN8.out.1]; exact hk))
               have hfs8 := blk_frozen (H8.out.kp0 HKB8.out) k
               clear ho hgr))
          have HST8 : Hid (Kp (fun b => b = g8) wb8 (wb8.setCell ⟨g8, k, none⟩ (.slice sba8 sbn8 sbc8))) := Lib.hid ((Kp.refl (fun b => b = g8) wb8).setCell (p := ⟨g8, k, none⟩) (fun _ => rfl) _)
          have H8n8 : Hid (Blk (wb8.setCell ⟨g8, k, none⟩ (.slice sba8 sbn8 sbc8)) g8 30 (vb.set k (.slice sba8 sbn8 sbc8))) := Lib.hid ((H8.out.kp0 HKB8.out).set' k _)
          have H7n8 : Hid (Blk (wb8.setCell ⟨g8, k, none⟩ (.slice sba8 sbn8 sbc8)) g7 30 vA) := Lib.hid ((H7.out.kp0 HKB8.out).keep HST8.out HNZ.out.1)
          have HLT8 : Hid (g7 < w16.heap.size ∧ g8 < w16.heap.size) := Lib.hid (by first | exact ⟨H8.out.lt, H7.out.lt⟩ | exact ⟨H7.out.lt, H8.out.lt⟩)
          have HN8n8 : Hid (RowsN (fun g => g = g7 ∨ g = g8) (wb8.setCell ⟨g8, k, none⟩ (.slice sba8 sbn8 sbc8)) (vb.set k (.slice sba8 sbn8 sbc8)) (List.set ownS k (o :: l1))) := Lib.hid (((HN8.out.keep (S := fun _ => False) HKB8.out (fun _ h => h.elim)).set k hk HOB8.out.rd (fun b hb hz => by have := (HOB8.out.lt b hb).1; have := HLT8.out; rcases hz with rfl | rfl <;> omega)).keep HST8.out (fun g hg => .inr hg))
          have HN7n8 : Hid (RowsN (fun g => g = g7 ∨ g = g8) (wb8.setCell ⟨g8, k, none⟩ (.slice sba8 sbn8 sbc8)) vA (List.set ownS k (l1 ++ [o]))) := Lib.hid ((HN7.out.keep (S := fun _ => False) HKB8.out (fun _ h => h.elim)).keep HST8.out (fun g hg => .inr hg))
          have HKn8 : Hid (Kp0 w (wb8.setCell ⟨g8, k, none⟩ (.slice sba8 sbn8 sbc8))) := Lib.hid ((HK7.out.tr HKB8.out).trans HST8.out (fun _ _ h => h) (fun i hi h => by have := HNZ.out.2.2.2.2; omega))
          generalize wb8.setCell ⟨g8, k, none⟩ (.slice sba8 sbn8 sbc8) = w18 at H8n8 H7n8 HN8n8 HN7n8 HKn8 ⊢
          clear HST8 HLT8
          clear hcs8 hfs8 HOB8 HKB8
          generalize vb.set k (.slice sba8 sbn8 sbc8) = vB at H8n8 HN8n8
          have HGG : Hid (agreeR (List.set ownS k (l1 ++ [o])) (List.set ownS k (o :: l1)) = if l1 = [] then 0 else 7) := Lib.hid (first_g hk HO.out HM.out (fun s h => by simp only [List.mem_append, List.mem_singleton] at h; simp only [List.mem_cons]; exact h.symm))
          by_cases hz : l1 = []
          · have hlen : l1.length = 0 := by rw [hz]; rfl
            have hli : (l1.length : Int) = 0 := by omega
            rw [if_pos hz] at HGG
            clear hz
            go_wp2_with (first
              | (refine wl_load_blk rfl 30 (.tmp 7) rfl g7 30 (vA) rfl H7n8.out _ Tryd.underlying30 rfl (infoL8 HN7n8.out.1) ?_)
              | (refine wl_load_blk rfl 30 (.tmp 8) rfl g8 30 (vB) rfl H8n8.out _ Tryd.underlying30 rfl (infoL8 HN8n8.out.1) ?_)
              | (go_at_call 16
                 refine (agree_any vA vB _ _ _ HN7n8.out.rows HN8n8.out.rows).mono ?_
                 rw [HGG.out]
                 rintro e w19 ⟨rfl, hk9⟩
                 have HK19 := Lib.hid (HKn8.out.tr hk9)
                 clear hk9))
            go_ret
            exact ⟨rfl, HK19.out⟩
          · have hlen : ¬ l1.length = 0 := fun e => hz (List.eq_nil_of_length_eq_zero e)
            have hli : ((l1.length : Int) == 0) = false := by rw [beq_eq_false_iff_ne]; omega
            rw [if_neg hz] at HGG
            clear hz hlen
            go_wp2_with (first
              | (refine wl_load_blk rfl 30 (.tmp 7) rfl g7 30 (vA) rfl H7n8.out _ Tryd.underlying30 rfl (infoL8 HN7n8.out.1) ?_)
              | (refine wl_load_blk rfl 30 (.tmp 8) rfl g8 30 (vB) rfl H8n8.out _ Tryd.underlying30 rfl (infoL8 HN8n8.out.1) ?_)
              | (go_at_call 16
                 refine (agree_any vA vB _ _ _ HN7n8.out.rows HN8n8.out.rows).mono ?_
                 rw [HGG.out]
                 rintro e w19 ⟨rfl, hk9⟩
                 have HK19 := Lib.hid (HKn8.out.tr hk9)
                 clear hk9))
            go_ret
            exact ⟨rfl, HK19.out⟩
end Go.Proofs.YtcbkaamcjogbgaaDoor
