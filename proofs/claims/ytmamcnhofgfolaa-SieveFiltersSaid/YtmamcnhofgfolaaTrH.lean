/- The reference of layer 14: are trees the same? -/
import Derived.Test.YtmamcnhofgfolaaTrG
namespace Go.Proofs.Ytmamcnhofgfolaa
open Go Go.RowKit
mutual
def eqN : PN → PN → Bool
  | .mk n v k, .mk m u l => n == m && (v == u && eqL k l)
def eqL : List PN → List PN → Bool
  | [], [] => true
  | x :: xs, y :: ys => eqN x y && eqL xs ys
  | _, _ => false
end
theorem eqN_def (x y : PN) : eqN x y = (x.nm == y.nm && (x.vl == y.vl && eqL x.ks y.ks)) := by
  cases x
  cases y
  unfold eqN
  rfl
mutual
theorem eqN_refl : ∀ x, eqN x x = true
  | .mk n v k => by
    unfold eqN
    rw [eqL_refl k]
    simp
theorem eqL_refl : ∀ l, eqL l l = true
  | [] => by unfold eqL; rfl
  | x :: xs => by
    unfold eqL
    rw [eqN_refl x, eqL_refl xs]
    rfl
end
theorem eqL_len : ∀ a b, a.length ≠ b.length → eqL a b = false
  | [], [], h => absurd rfl h
  | [], y :: ys, _ => by unfold eqL; rfl
  | x :: xs, [], _ => by unfold eqL; rfl
  | x :: xs, y :: ys, h => by
    unfold eqL
    rw [eqL_len xs ys (fun e => h (by simp [e]))]
    simp
theorem eqL_one : ∀ (a b : List PN) (k : Nat) (h1 : k < a.length) (h2 : k < b.length), eqN a[k] b[k] = false → eqL a b = false
  | x :: xs, y :: ys, 0, _, _, h => by
    unfold eqL
    rw [show eqN x y = false from h]
    rfl
  | x :: xs, y :: ys, k + 1, h1, h2, h => by
    unfold eqL
    rw [eqL_one xs ys k (by simpa using h1) (by simpa using h2) (by simpa using h)]
    simp
theorem eqL_all : ∀ (a b : List PN), a.length = b.length → (∀ k (h1 : k < a.length) (h2 : k < b.length), eqN a[k] b[k] = true) → eqL a b = true
  | [], [], _, _ => by unfold eqL; rfl
  | [], y :: ys, h, _ => by simp at h
  | x :: xs, [], h, _ => by simp at h
  | x :: xs, y :: ys, h, hk => by
    unfold eqL
    rw [show eqN x y = true from hk 0 (by simp) (by simp), eqL_all xs ys (by simpa using h) (fun k h1 h2 => by have := hk (k + 1) (by simpa using h1) (by simpa using h2); simpa using this)]
    rfl
def EqP (a : List PN) : Prop := ∀ (F G : Nat → Prop) (b : List PN) (va vb : Value) (w : World), RowN F w va a → RowN G w vb b → Calls Try.prog 11 #[va, vb] w fun e w' => e = .returned (.bool (eqL a b)) ∧ Kp0 w w'
set_option maxRecDepth 20000 in
set_option maxHeartbeats 4000000 in
theorem equal_step (a : List PN) (ih : ∀ x ∈ a, EqP x.ks) : EqP a := by
  intro F G b va vb w ha hb
  have HA := Lib.hid ha
  have HB := Lib.hid hb
  obtain ⟨ao, ca, rfl, _, _, _⟩ := ha.shape
  obtain ⟨bo, cb, rfl, _, _, _⟩ := hb.shape
  have HIH0 := Lib.hid ih
  clear ha hb ih
  go_enter Try.func11, Try.ntmps11
  by_cases hl : a.length = b.length
  · have f1 : ((a.length : Int) == (b.length : Int)) = true := by rw [beq_iff_eq]; omega
    have HL := Lib.hid hl
    have f2 : ((a.length : Int) != (b.length : Int)) = false := by rw [bne, f1]; rfl
    clear hl
    go_wp2
    clear f1 f2
    go_loopw [5] (fun i wr => ∃ k : Nat, i = .int .i64 k ∧ k ≤ a.length ∧ Hid (∀ j (_ : j < k) (h1 : j < a.length) (h2 : j < b.length), eqN a[j] b[j] = true) ∧ Kp0 w wr) (fun i _ => a.length - (intOf i).toNat)
    case atStart => exact ⟨0, rfl, Nat.zero_le _, Lib.hid (fun j hj => absurd hj (Nat.not_lt_zero j)), Kp.refl _ _⟩
    case round =>
      obtain ⟨k, rfl, hk, HF, hkp⟩ := hrel
      have HK := Lib.hid hkp
      clear hkp
      by_cases h : k < a.length
      · have i1 : (k : Int) < (a.length : Int) := by omega
        have h' : k < b.length := by have := HL.out; omega
        obtain ⟨b1, o1, cap1, ax, e1, _, _, D0, D1, D2, hxv, _, _⟩ := HA.out.at k h
        obtain ⟨b2, o2, cap2, ay, e2, _, _, E0, E1, E2, hyv, _, _⟩ := HB.out.at k h'
        have j1 : (k : Int) < (b.length : Int) := by omega
        simp only [Value.slice.injEq] at e1 e2
        obtain ⟨rfl, _, rfl⟩ := e1
        obtain ⟨rfl, _, rfl⟩ := e2
        have HW : Hid (∀ wq, Kp0 w wq → True) := Lib.hid (fun _ _ => trivial)
        have HXV := Lib.hid hxv
        have HYV := Lib.hid hyv
        have HIH := Lib.hid (HIH0.out _ (List.getElem_mem h))
        have HNO : Hid (eqN (a[k]'h) (b[k]'h') = false → eqL a b = false) := Lib.hid (fun e => eqL_one a b k h h' e)
        have HYE : Hid (eqN (a[k]'h) (b[k]'h') = true → ∀ j (_ : j < k + 1) (h1 : j < a.length) (h2 : j < b.length), eqN a[j] b[j] = true) := Lib.hid (fun e j hj h1 h2 => by
          rcases Nat.lt_or_ge j k with h3 | h3
          · exact HF.out j h3 h1 h2
          · obtain rfl : j = k := by omega
            exact e)
        have D0 := Lib.hid D0
        have D1 := Lib.hid D1
        have D2 := Lib.hid D2
        have E0 := Lib.hid E0
        have E1 := Lib.hid E1
        have E2 := Lib.hid E2
        clear hxv hyv HW
        generalize a[k]'h = x at D0 D1 D2 HXV HIH HNO HYE
        generalize b[k]'h' = y at E0 E1 E2 HYV HNO HYE
        cases hb : ((S x.nm).toList == (S y.nm).toList)
        · have HN0 := Lib.hid (HNO.out (by rw [eqN_def, ← S_beq, hb]; rfl))
          go_upto_region 6 with (fail)
          refine wp_region_px 38 [] (fun w' : World => Kp0 w w') (.quiet 0 (.quiet 1 (.quiet 2 (.quiet 3 (.quiet 4 (.quiet 5 (.quiet 6 (.quiet 7 (.quiet 8 (.quiet 9 (.quiet 10 (.quiet 11 (.quiet 12 (.quiet 13 (.quiet 14 (.quiet 15 (.quiet 16 (.quiet 17 (.quiet 18 (.quiet 19 (.quiet 20 (.quiet 21 (.quiet 22 (.quiet 23 (.quiet 24 (.quiet 25 (.quiet 26 (.quiet 27 (.quiet 28 (.quiet 29 (.quiet 30 (.quiet 31 (.quiet 32 (.quiet 33 (.quiet 34 (.eff 35 (.quiet 36 (.quiet 37 .done)))))))))))))))))))))))))))))))))))))) (by kernel_rfl) (by kernel_rfl) (by kernel_rfl) (by kernel_rfl) (fun _ d _ _ _ h => by cases d <;> exact h) HK.out.drew ?_
          have HK := Lib.hid HK.out.drew
          generalize wr.drew = x0 at HK ⊢
          iterate 12 (refine px_quiet (v := ?_) rfl (by rfl) (fun wq hwq => ?_) rfl ?_; rotate_left 1; (focus (have c0 := hwq.cell D0.out (fun h => h); have c1 := hwq.cell D1.out (fun h => h); have c2 := hwq.cell D2.out (fun h => h); have e0 := hwq.cell E0.out (fun h => h); have e1 := hwq.cell E1.out (fun h => h); have e2 := hwq.cell E2.out (fun h => h); go_simp; try (with_reducible rfl); done)); try simp only [List.setIfInBounds_toArray, List.set_cons_zero, List.set_cons_succ])
          iterate 11 (refine px_skip rfl (by rfl) rfl ?_; try simp only [List.setIfInBounds_toArray, List.set_cons_zero, List.set_cons_succ])
          iterate 2 (refine px_quiet (v := ?_) rfl (by rfl) (fun wq hwq => ?_) rfl ?_; rotate_left 1; (focus (clear hwq; go_simp; try (with_reducible rfl); done)); try simp only [List.setIfInBounds_toArray, List.set_cons_zero, List.set_cons_succ])
          iterate 10 (refine px_skip rfl (by rfl) rfl ?_; try simp only [List.setIfInBounds_toArray, List.set_cons_zero, List.set_cons_succ])
          refine px_skipE rfl (by rfl) rfl ?_
          try simp only [List.setIfInBounds_toArray, List.set_cons_zero, List.set_cons_succ]
          iterate 1 (refine px_skip rfl (by rfl) rfl ?_; try simp only [List.setIfInBounds_toArray, List.set_cons_zero, List.set_cons_succ])
          iterate 1 (refine px_quiet (v := ?_) rfl (by rfl) (fun wq hwq => ?_) rfl ?_; rotate_left 1; (focus (clear hwq; go_simp; try (with_reducible rfl); done)); try simp only [List.setIfInBounds_toArray, List.set_cons_zero, List.set_cons_succ])
          refine px_done ?_
          go_wp2
          go_ret
          exact ⟨by rw [HN0.out]; rfl, HK.out⟩
        · cases hv : ((S x.vl).toList == (S y.vl).toList)
          · have HN0 := Lib.hid (HNO.out (by rw [eqN_def, ← S_beq, hb, ← S_beq, hv]; rfl))
            go_upto_region 6 with (fail)
            refine wp_region_px 38 [] (fun w' : World => Kp0 w w') (.quiet 0 (.quiet 1 (.quiet 2 (.quiet 3 (.quiet 4 (.quiet 5 (.quiet 6 (.quiet 7 (.quiet 8 (.quiet 9 (.quiet 10 (.quiet 11 (.quiet 12 (.quiet 13 (.quiet 14 (.quiet 15 (.quiet 16 (.quiet 17 (.quiet 18 (.quiet 19 (.quiet 20 (.quiet 21 (.quiet 22 (.quiet 23 (.quiet 24 (.quiet 25 (.quiet 26 (.quiet 27 (.quiet 28 (.quiet 29 (.quiet 30 (.quiet 31 (.quiet 32 (.quiet 33 (.quiet 34 (.eff 35 (.quiet 36 (.quiet 37 .done)))))))))))))))))))))))))))))))))))))) (by kernel_rfl) (by kernel_rfl) (by kernel_rfl) (by kernel_rfl) (fun _ d _ _ _ h => by cases d <;> exact h) HK.out.drew ?_
            have HK := Lib.hid HK.out.drew
            generalize wr.drew = x0 at HK ⊢
            iterate 25 (refine px_quiet (v := ?_) rfl (by rfl) (fun wq hwq => ?_) rfl ?_; rotate_left 1; (focus (have c0 := hwq.cell D0.out (fun h => h); have c1 := hwq.cell D1.out (fun h => h); have c2 := hwq.cell D2.out (fun h => h); have e0 := hwq.cell E0.out (fun h => h); have e1 := hwq.cell E1.out (fun h => h); have e2 := hwq.cell E2.out (fun h => h); go_simp; try (with_reducible rfl); done)); try simp only [List.setIfInBounds_toArray, List.set_cons_zero, List.set_cons_succ])
            iterate 10 (refine px_skip rfl (by rfl) rfl ?_; try simp only [List.setIfInBounds_toArray, List.set_cons_zero, List.set_cons_succ])
            refine px_skipE rfl (by rfl) rfl ?_
            try simp only [List.setIfInBounds_toArray, List.set_cons_zero, List.set_cons_succ]
            iterate 1 (refine px_skip rfl (by rfl) rfl ?_; try simp only [List.setIfInBounds_toArray, List.set_cons_zero, List.set_cons_succ])
            iterate 1 (refine px_quiet (v := ?_) rfl (by rfl) (fun wq hwq => ?_) rfl ?_; rotate_left 1; (focus (clear hwq; go_simp; try (with_reducible rfl); done)); try simp only [List.setIfInBounds_toArray, List.set_cons_zero, List.set_cons_succ])
            refine px_done ?_
            go_wp2
            go_ret
            exact ⟨by rw [HN0.out]; rfl, HK.out⟩
          · have HN0 : Hid (eqN x y = eqL x.ks y.ks) := Lib.hid (by rw [eqN_def, ← S_beq, hb, ← S_beq, hv]; rfl)
            go_upto_region 6 with (fail)
            refine wp_region_px 38 [] (fun w' : World => Kp0 w w') (.quiet 0 (.quiet 1 (.quiet 2 (.quiet 3 (.quiet 4 (.quiet 5 (.quiet 6 (.quiet 7 (.quiet 8 (.quiet 9 (.quiet 10 (.quiet 11 (.quiet 12 (.quiet 13 (.quiet 14 (.quiet 15 (.quiet 16 (.quiet 17 (.quiet 18 (.quiet 19 (.quiet 20 (.quiet 21 (.quiet 22 (.quiet 23 (.quiet 24 (.quiet 25 (.quiet 26 (.quiet 27 (.quiet 28 (.quiet 29 (.quiet 30 (.quiet 31 (.quiet 32 (.quiet 33 (.quiet 34 (.eff 35 (.quiet 36 (.quiet 37 .done)))))))))))))))))))))))))))))))))))))) (by kernel_rfl) (by kernel_rfl) (by kernel_rfl) (by kernel_rfl) (fun _ d _ _ _ h => by cases d <;> exact h) HK.out.drew ?_
            have HK := Lib.hid HK.out.drew
            generalize wr.drew = x0 at HK ⊢
            iterate 35 (refine px_quiet (v := ?_) rfl (by rfl) (fun wq hwq => ?_) rfl ?_; rotate_left 1; (focus (have c0 := hwq.cell D0.out (fun h => h); have c1 := hwq.cell D1.out (fun h => h); have c2 := hwq.cell D2.out (fun h => h); have e0 := hwq.cell E0.out (fun h => h); have e1 := hwq.cell E1.out (fun h => h); have e2 := hwq.cell E2.out (fun h => h); go_simp; try (with_reducible rfl); done)); try simp only [List.setIfInBounds_toArray, List.set_cons_zero, List.set_cons_succ])
            refine px_eff rfl (by rfl) (fun K hK => ?_)
            go_simp
            refine (HIH.out F G y.ks ax ay x0 (HXV.out.kp0 HK.out) (HYV.out.kp0 HK.out)).mono ?_
            rintro e x1 ⟨rfl, hk⟩
            simp only []
            have HK := Lib.hid (HK.out.tr hk)
            refine hK (fun w' => Kp0 w w') _ _ (fun _ h => h) HK.out ?_
            clear hK K hk
            try simp only [List.setIfInBounds_toArray, List.set_cons_zero, List.set_cons_succ]
            iterate 2 (refine px_quiet (v := ?_) rfl (by rfl) (fun wq hwq => ?_) rfl ?_; rotate_left 1; (focus (clear hwq; go_simp; try (with_reducible rfl); done)); try simp only [List.setIfInBounds_toArray, List.set_cons_zero, List.set_cons_succ])
            refine px_done ?_
            cases hq : eqL x.ks y.ks
            · have HN1 := Lib.hid (HNO.out (by rw [HN0.out, hq]))
              go_wp2
              go_ret
              exact ⟨by rw [HN1.out]; rfl, HK.out⟩
            · have HN1 := Lib.hid (HYE.out (by rw [HN0.out, hq]))
              go_wp2
              go_roundw
              case rel => exact ⟨k + 1, by go_num, by omega, HN1, HK.out⟩
              case measure => simp [intOf]; omega
      · have i1 : ¬ (k : Int) < (a.length : Int) := by omega
        have HN0 : Hid (eqL a b = true) := Lib.hid (eqL_all a b HL.out (fun j h1 h2 => HF.out j (by omega) h1 h2))
        go_wp2
        go_ret
        exact ⟨by rw [HN0.out]; rfl, HK.out⟩
  · have f1 : ((a.length : Int) == (b.length : Int)) = false := by rw [beq_eq_false_iff_ne]; omega
    have HN0 : Hid (eqL a b = false) := Lib.hid (eqL_len a b hl)
    clear hl
    go_wp2
    go_ret
    exact ⟨by rw [HN0.out]; rfl, Kp.refl _ _⟩
theorem ks_lt {a : List PN} {x : PN} (h : x ∈ a) : SizeOf.sizeOf x.ks < SizeOf.sizeOf a := by
  have := List.sizeOf_lt_of_mem h
  cases x
  simp only [PN.mk.sizeOf_spec, PN.ks] at this ⊢
  omega
theorem equal_any (a : List PN) : EqP a := equal_step a (fun x _ => equal_any x.ks)
termination_by SizeOf.sizeOf a
decreasing_by exact ks_lt (by assumption)
end Go.Proofs.Ytmamcnhofgfolaa
