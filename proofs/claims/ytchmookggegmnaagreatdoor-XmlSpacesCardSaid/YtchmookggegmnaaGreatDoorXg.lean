/- The reference's Name. Elements one in the other, as they are written, and as they are read. The law of layer 13: elements one in the other. -/
import Derived.Test.YtchmookggegmnaaGreatDoorXf
namespace Go.Proofs.YtchmookggegmnaaGreatDoor
open Go Go.RowKit
def letP (x : Nat) : Prop := (97 ≤ x ∧ x ≤ 122) ∨ (65 ≤ x ∧ x ≤ 90) ∨ x = 95
def morP (x : Nat) : Prop := (48 ≤ x ∧ x ≤ 57) ∨ x = 45 ∨ x = 46
theorem nm_go {l : List UInt8} {k : Nat} (h : nmB l k) (hk : k < l.length) (hx : letP (l[k]).toNat ∨ (morP (l[k]).toNat ∧ k ≠ 0)) : nmB l (k + 1) := by
  refine nmB_succ h hk ?_
  unfold letP morP at hx
  simp only [Bool.or_eq_false_iff, Bool.and_eq_false_iff, decide_eq_false_iff_not, Bool.not_eq_false', beginsC, inNameC, inNameN, beginsN, Bool.or_eq_true, Bool.and_eq_true, decide_eq_true_eq, beq_iff_eq]
  omega
theorem nm_stop {l : List UInt8} {k : Nat} (hk : k < l.length) (hx : ¬ letP (l[k]).toNat) (hy : ¬ morP (l[k]).toNat ∨ k = 0) : isName l = false := by
  refine isName_no hk ?_
  unfold letP morP at *
  rw [Bool.eq_iff_iff]
  simp only [Bool.or_eq_true, Bool.and_eq_true, decide_eq_true_eq, Bool.not_eq_true', beginsC, inNameC, inNameN, beginsN, Bool.or_eq_false_iff, Bool.and_eq_false_iff, decide_eq_false_iff_not, beq_eq_false_iff_ne, ne_eq, iff_true]
  omega
theorem isName_len {l : List UInt8} (h : 32 < l.length) : isName l = false := by
  cases l with
  | nil => rfl
  | cons c l => simp only [isName, List.length_cons] at h ⊢; rw [decide_eq_false (by omega), Bool.and_false]
set_option maxRecDepth 20000 in
set_option maxHeartbeats 40000000 in
theorem refName_any (l : List UInt8) (w : World) (hl : l.length ≤ 9223372036854775807) : Calls Tryz.prog 10 #[.string (S l)] w fun e w' => e = .returned (.bool (isName l)) ∧ w = w' := by
  obtain ⟨n, hn⟩ : ∃ n, n = l.length := ⟨_, rfl⟩
  have hsz : (S l).size = n := by rw [S_size, hn]
  have hni : (n : Int) ≤ 9223372036854775807 := by omega
  have HNL := Lib.hid hn
  obtain ⟨r, hr⟩ : ∃ r, r = isName l := ⟨_, rfl⟩
  have HR := Lib.hid hr
  rw [← hr]
  clear hl hn hr
  by_cases h0 : n = 0
  · have hnil : l = [] := List.eq_nil_of_length_eq_zero (by rw [← HNL.out]; exact h0)
    have hr : r = false := by rw [HR.out, hnil]; rfl
    clear hnil
    subst hr h0
    go_enter Tryz.func10, Tryz.ntmps10
    go_wp2
    all_goals go_ret
    all_goals exact ⟨rfl, rfl⟩
  · by_cases h1 : 32 < n
    · have hr : r = false := by rw [HR.out, isName_len (by rw [← HNL.out]; exact h1)]
      subst hr
      have h2 : ¬ (n : Int) < 1 := by omega
      have h3 : (32 : Int) < n := by omega
      go_enter Tryz.func10, Tryz.ntmps10
      go_wp2
      all_goals go_ret
      all_goals exact ⟨rfl, rfl⟩
    · have h2 : ¬ (n : Int) < 1 := by omega
      have h3 : ¬ (32 : Int) < n := by omega
      have HN0 := Lib.hid h0
      have HN1 := Lib.hid h1
      clear h0 h1
      go_enter Tryz.func10, Tryz.ntmps10
      go_wp2
      go_loopg [3] n (fun gg i wr => ∃ (k : Nat), i = .int .i64 k ∧ k ≤ n ∧ gg = n - k ∧ nmB l k ∧ w = wr)
      case atStart => exact ⟨0, rfl, Nat.zero_le _, rfl, ⟨by simp, fun h => absurd h (by omega)⟩, rfl⟩
      case round =>
        obtain ⟨k, rfl, hk, rfl, hnm, rfl⟩ := hrel
        have HNM := Lib.hid hnm
        clear hnm
        by_cases hlt : k < n
        · have hlt' : k < l.length := by rw [← HNL.out]; exact hlt
          have hki : (k : Int) < n := by omega
          go_upto_region 7 with (fail)
          rw [S_get l k (by rw [hsz]; exact hlt) hlt']
          obtain ⟨x, hx⟩ : ∃ x, x = (l[k]).toNat := ⟨_, rfl⟩
          rw [← hx]
          have HX := Lib.hid hx
          clear hx
          have hgo : (letP x ∨ (morP x ∧ k ≠ 0)) → nmB l (k + 1) := fun h => nm_go HNM.out hlt' (by rw [← HX.out]; exact h)
          have hst : ¬ letP x → (¬ morP x ∨ k = 0) → isName l = false := fun h h' => nm_stop hlt' (by rw [← HX.out]; exact h) (by rw [← HX.out]; exact h')
          have HGO := Lib.hid hgo
          have HST := Lib.hid hst
          clear hgo hst
          -- CASES
          have hcl : (0 ≤ x ∧ x ≤ 44) ∨ (45 ≤ x ∧ x ≤ 45) ∨ (46 ≤ x ∧ x ≤ 46) ∨ (47 ≤ x ∧ x ≤ 47) ∨ (48 ≤ x ∧ x ≤ 57) ∨ (58 ≤ x ∧ x ≤ 64) ∨ (65 ≤ x ∧ x ≤ 90) ∨ (91 ≤ x ∧ x ≤ 94) ∨ (95 ≤ x ∧ x ≤ 95) ∨ (96 ≤ x ∧ x ≤ 96) ∨ (97 ≤ x ∧ x ≤ 122) ∨ 123 ≤ x := by omega
          rcases hcl with hc | hc | hc | hc | hc | hc | hc | hc | hc | hc | hc | hc
          · -- 0 .. 44
            have a0 : ¬ ((97 : Int) ≤ (x : Int)) := by omega
            have a1 : (x : Int) ≤ (122 : Int) := by omega
            have a2 : ¬ ((65 : Int) ≤ (x : Int)) := by omega
            have a3 : (x : Int) ≤ (90 : Int) := by omega
            have a4 : ¬ ((48 : Int) ≤ (x : Int)) := by omega
            have a5 : (x : Int) ≤ (57 : Int) := by omega
            have a6 : ((x : Int) == 95) = false := by rw [beq_eq_false_iff_ne]; omega
            have a7 : ((x : Int) == 45) = false := by rw [beq_eq_false_iff_ne]; omega
            have a8 : ((x : Int) == 46) = false := by rw [beq_eq_false_iff_ne]; omega
            have HF : Hid (r = false) := Lib.hid (by rw [HR.out]; exact HST.out (by unfold letP; omega) (.inl (by unfold morP; omega)))
            go_wp2
            all_goals go_ret
            all_goals exact ⟨by rw [HF.out]; rfl, rfl⟩
          · -- 45 .. 45
            have a0 : ¬ ((97 : Int) ≤ (x : Int)) := by omega
            have a1 : (x : Int) ≤ (122 : Int) := by omega
            have a2 : ¬ ((65 : Int) ≤ (x : Int)) := by omega
            have a3 : (x : Int) ≤ (90 : Int) := by omega
            have a4 : ¬ ((48 : Int) ≤ (x : Int)) := by omega
            have a5 : (x : Int) ≤ (57 : Int) := by omega
            have a6 : ((x : Int) == 95) = false := by rw [beq_eq_false_iff_ne]; omega
            have a7 : ((x : Int) == 45) = true := by rw [beq_iff_eq]; omega
            have a8 : ((x : Int) == 46) = false := by rw [beq_eq_false_iff_ne]; omega
            by_cases hk0 : k = 0
            · have hki0 : ((k : Int) == 0) = true := by rw [beq_iff_eq]; omega
              have HF : Hid (r = false) := Lib.hid (by rw [HR.out]; exact HST.out (by unfold letP; omega) (.inr hk0))
              go_wp2
              all_goals go_ret
              all_goals exact ⟨by rw [HF.out]; rfl, rfl⟩
            · have hki0 : ((k : Int) == 0) = false := by rw [beq_eq_false_iff_ne]; omega
              have HL : Hid (nmB l (k + 1)) := Lib.hid (HGO.out (.inr ⟨by unfold morP; omega, hk0⟩))
              go_wp2
              go_roundg (n - (k + 1))
              case measure => omega
              case rel => exact ⟨k + 1, by go_num, by omega, rfl, HL.out, rfl⟩
          · -- 46 .. 46
            have a0 : ¬ ((97 : Int) ≤ (x : Int)) := by omega
            have a1 : (x : Int) ≤ (122 : Int) := by omega
            have a2 : ¬ ((65 : Int) ≤ (x : Int)) := by omega
            have a3 : (x : Int) ≤ (90 : Int) := by omega
            have a4 : ¬ ((48 : Int) ≤ (x : Int)) := by omega
            have a5 : (x : Int) ≤ (57 : Int) := by omega
            have a6 : ((x : Int) == 95) = false := by rw [beq_eq_false_iff_ne]; omega
            have a7 : ((x : Int) == 45) = false := by rw [beq_eq_false_iff_ne]; omega
            have a8 : ((x : Int) == 46) = true := by rw [beq_iff_eq]; omega
            by_cases hk0 : k = 0
            · have hki0 : ((k : Int) == 0) = true := by rw [beq_iff_eq]; omega
              have HF : Hid (r = false) := Lib.hid (by rw [HR.out]; exact HST.out (by unfold letP; omega) (.inr hk0))
              go_wp2
              all_goals go_ret
              all_goals exact ⟨by rw [HF.out]; rfl, rfl⟩
            · have hki0 : ((k : Int) == 0) = false := by rw [beq_eq_false_iff_ne]; omega
              have HL : Hid (nmB l (k + 1)) := Lib.hid (HGO.out (.inr ⟨by unfold morP; omega, hk0⟩))
              go_wp2
              go_roundg (n - (k + 1))
              case measure => omega
              case rel => exact ⟨k + 1, by go_num, by omega, rfl, HL.out, rfl⟩
          · -- 47 .. 47
            have a0 : ¬ ((97 : Int) ≤ (x : Int)) := by omega
            have a1 : (x : Int) ≤ (122 : Int) := by omega
            have a2 : ¬ ((65 : Int) ≤ (x : Int)) := by omega
            have a3 : (x : Int) ≤ (90 : Int) := by omega
            have a4 : ¬ ((48 : Int) ≤ (x : Int)) := by omega
            have a5 : (x : Int) ≤ (57 : Int) := by omega
            have a6 : ((x : Int) == 95) = false := by rw [beq_eq_false_iff_ne]; omega
            have a7 : ((x : Int) == 45) = false := by rw [beq_eq_false_iff_ne]; omega
            have a8 : ((x : Int) == 46) = false := by rw [beq_eq_false_iff_ne]; omega
            have HF : Hid (r = false) := Lib.hid (by rw [HR.out]; exact HST.out (by unfold letP; omega) (.inl (by unfold morP; omega)))
            go_wp2
            all_goals go_ret
            all_goals exact ⟨by rw [HF.out]; rfl, rfl⟩
          · -- 48 .. 57
            have a0 : ¬ ((97 : Int) ≤ (x : Int)) := by omega
            have a1 : (x : Int) ≤ (122 : Int) := by omega
            have a2 : ¬ ((65 : Int) ≤ (x : Int)) := by omega
            have a3 : (x : Int) ≤ (90 : Int) := by omega
            have a4 : (48 : Int) ≤ (x : Int) := by omega
            have a5 : (x : Int) ≤ (57 : Int) := by omega
            have a6 : ((x : Int) == 95) = false := by rw [beq_eq_false_iff_ne]; omega
            have a7 : ((x : Int) == 45) = false := by rw [beq_eq_false_iff_ne]; omega
            have a8 : ((x : Int) == 46) = false := by rw [beq_eq_false_iff_ne]; omega
            by_cases hk0 : k = 0
            · have hki0 : ((k : Int) == 0) = true := by rw [beq_iff_eq]; omega
              have HF : Hid (r = false) := Lib.hid (by rw [HR.out]; exact HST.out (by unfold letP; omega) (.inr hk0))
              go_wp2
              all_goals go_ret
              all_goals exact ⟨by rw [HF.out]; rfl, rfl⟩
            · have hki0 : ((k : Int) == 0) = false := by rw [beq_eq_false_iff_ne]; omega
              have HL : Hid (nmB l (k + 1)) := Lib.hid (HGO.out (.inr ⟨by unfold morP; omega, hk0⟩))
              go_wp2
              go_roundg (n - (k + 1))
              case measure => omega
              case rel => exact ⟨k + 1, by go_num, by omega, rfl, HL.out, rfl⟩
          · -- 58 .. 64
            have a0 : ¬ ((97 : Int) ≤ (x : Int)) := by omega
            have a1 : (x : Int) ≤ (122 : Int) := by omega
            have a2 : ¬ ((65 : Int) ≤ (x : Int)) := by omega
            have a3 : (x : Int) ≤ (90 : Int) := by omega
            have a4 : (48 : Int) ≤ (x : Int) := by omega
            have a5 : ¬ ((x : Int) ≤ (57 : Int)) := by omega
            have a6 : ((x : Int) == 95) = false := by rw [beq_eq_false_iff_ne]; omega
            have a7 : ((x : Int) == 45) = false := by rw [beq_eq_false_iff_ne]; omega
            have a8 : ((x : Int) == 46) = false := by rw [beq_eq_false_iff_ne]; omega
            have HF : Hid (r = false) := Lib.hid (by rw [HR.out]; exact HST.out (by unfold letP; omega) (.inl (by unfold morP; omega)))
            go_wp2
            all_goals go_ret
            all_goals exact ⟨by rw [HF.out]; rfl, rfl⟩
          · -- 65 .. 90
            have a0 : ¬ ((97 : Int) ≤ (x : Int)) := by omega
            have a1 : (x : Int) ≤ (122 : Int) := by omega
            have a2 : (65 : Int) ≤ (x : Int) := by omega
            have a3 : (x : Int) ≤ (90 : Int) := by omega
            have a4 : (48 : Int) ≤ (x : Int) := by omega
            have a5 : ¬ ((x : Int) ≤ (57 : Int)) := by omega
            have a6 : ((x : Int) == 95) = false := by rw [beq_eq_false_iff_ne]; omega
            have a7 : ((x : Int) == 45) = false := by rw [beq_eq_false_iff_ne]; omega
            have a8 : ((x : Int) == 46) = false := by rw [beq_eq_false_iff_ne]; omega
            have HL : Hid (nmB l (k + 1)) := Lib.hid (HGO.out (by unfold letP; omega))
            go_wp2
            go_roundg (n - (k + 1))
            case measure => omega
            case rel => exact ⟨k + 1, by go_num, by omega, rfl, HL.out, rfl⟩
          · -- 91 .. 94
            have a0 : ¬ ((97 : Int) ≤ (x : Int)) := by omega
            have a1 : (x : Int) ≤ (122 : Int) := by omega
            have a2 : (65 : Int) ≤ (x : Int) := by omega
            have a3 : ¬ ((x : Int) ≤ (90 : Int)) := by omega
            have a4 : (48 : Int) ≤ (x : Int) := by omega
            have a5 : ¬ ((x : Int) ≤ (57 : Int)) := by omega
            have a6 : ((x : Int) == 95) = false := by rw [beq_eq_false_iff_ne]; omega
            have a7 : ((x : Int) == 45) = false := by rw [beq_eq_false_iff_ne]; omega
            have a8 : ((x : Int) == 46) = false := by rw [beq_eq_false_iff_ne]; omega
            have HF : Hid (r = false) := Lib.hid (by rw [HR.out]; exact HST.out (by unfold letP; omega) (.inl (by unfold morP; omega)))
            go_wp2
            all_goals go_ret
            all_goals exact ⟨by rw [HF.out]; rfl, rfl⟩
          · -- 95 .. 95
            have a0 : ¬ ((97 : Int) ≤ (x : Int)) := by omega
            have a1 : (x : Int) ≤ (122 : Int) := by omega
            have a2 : (65 : Int) ≤ (x : Int) := by omega
            have a3 : ¬ ((x : Int) ≤ (90 : Int)) := by omega
            have a4 : (48 : Int) ≤ (x : Int) := by omega
            have a5 : ¬ ((x : Int) ≤ (57 : Int)) := by omega
            have a6 : ((x : Int) == 95) = true := by rw [beq_iff_eq]; omega
            have a7 : ((x : Int) == 45) = false := by rw [beq_eq_false_iff_ne]; omega
            have a8 : ((x : Int) == 46) = false := by rw [beq_eq_false_iff_ne]; omega
            have HL : Hid (nmB l (k + 1)) := Lib.hid (HGO.out (by unfold letP; omega))
            go_wp2
            go_roundg (n - (k + 1))
            case measure => omega
            case rel => exact ⟨k + 1, by go_num, by omega, rfl, HL.out, rfl⟩
          · -- 96 .. 96
            have a0 : ¬ ((97 : Int) ≤ (x : Int)) := by omega
            have a1 : (x : Int) ≤ (122 : Int) := by omega
            have a2 : (65 : Int) ≤ (x : Int) := by omega
            have a3 : ¬ ((x : Int) ≤ (90 : Int)) := by omega
            have a4 : (48 : Int) ≤ (x : Int) := by omega
            have a5 : ¬ ((x : Int) ≤ (57 : Int)) := by omega
            have a6 : ((x : Int) == 95) = false := by rw [beq_eq_false_iff_ne]; omega
            have a7 : ((x : Int) == 45) = false := by rw [beq_eq_false_iff_ne]; omega
            have a8 : ((x : Int) == 46) = false := by rw [beq_eq_false_iff_ne]; omega
            have HF : Hid (r = false) := Lib.hid (by rw [HR.out]; exact HST.out (by unfold letP; omega) (.inl (by unfold morP; omega)))
            go_wp2
            all_goals go_ret
            all_goals exact ⟨by rw [HF.out]; rfl, rfl⟩
          · -- 97 .. 122
            have a0 : (97 : Int) ≤ (x : Int) := by omega
            have a1 : (x : Int) ≤ (122 : Int) := by omega
            have a2 : (65 : Int) ≤ (x : Int) := by omega
            have a3 : ¬ ((x : Int) ≤ (90 : Int)) := by omega
            have a4 : (48 : Int) ≤ (x : Int) := by omega
            have a5 : ¬ ((x : Int) ≤ (57 : Int)) := by omega
            have a6 : ((x : Int) == 95) = false := by rw [beq_eq_false_iff_ne]; omega
            have a7 : ((x : Int) == 45) = false := by rw [beq_eq_false_iff_ne]; omega
            have a8 : ((x : Int) == 46) = false := by rw [beq_eq_false_iff_ne]; omega
            have HL : Hid (nmB l (k + 1)) := Lib.hid (HGO.out (by unfold letP; omega))
            go_wp2
            go_roundg (n - (k + 1))
            case measure => omega
            case rel => exact ⟨k + 1, by go_num, by omega, rfl, HL.out, rfl⟩
          · -- 123 .. None
            have a0 : (97 : Int) ≤ (x : Int) := by omega
            have a1 : ¬ ((x : Int) ≤ (122 : Int)) := by omega
            have a2 : (65 : Int) ≤ (x : Int) := by omega
            have a3 : ¬ ((x : Int) ≤ (90 : Int)) := by omega
            have a4 : (48 : Int) ≤ (x : Int) := by omega
            have a5 : ¬ ((x : Int) ≤ (57 : Int)) := by omega
            have a6 : ((x : Int) == 95) = false := by rw [beq_eq_false_iff_ne]; omega
            have a7 : ((x : Int) == 45) = false := by rw [beq_eq_false_iff_ne]; omega
            have a8 : ((x : Int) == 46) = false := by rw [beq_eq_false_iff_ne]; omega
            have HF : Hid (r = false) := Lib.hid (by rw [HR.out]; exact HST.out (by unfold letP; omega) (.inl (by unfold morP; omega)))
            go_wp2
            all_goals go_ret
            all_goals exact ⟨by rw [HF.out]; rfl, rfl⟩
          -- END
        · obtain rfl : k = n := by omega
          have HT : Hid (r = true) := Lib.hid (by
            have h := HNM.out
            rw [HNL.out] at h
            rw [HR.out, isName_of l h (by have := HN0.out; have := HNL.out; omega), decide_eq_true (by have := HN1.out; have := HNL.out; omega)])
          have hkk : ¬ (k : Int) < k := by omega
          go_wp2
          all_goals go_ret
          all_goals exact ⟨by rw [HT.out]; rfl, rfl⟩
end Go.Proofs.YtchmookggegmnaaGreatDoor
namespace Go.Proofs.YtchmookggegmnaaGreatDoor
open Go Go.RowKit
theorem inName_begins {c : UInt8} (h : beginsC c = true) : inNameC c = true := by
  unfold inNameC inNameN
  unfold beginsC at h
  rw [h]
  rfl
theorem name_all {nm : List UInt8} (h : isName nm = true) : nm.all inNameC = true ∧ ∃ c t, nm = c :: t ∧ beginsC c = true := by
  cases nm with
  | nil => cases h
  | cons c t =>
    simp only [isName, Bool.and_eq_true, decide_eq_true_eq] at h
    exact ⟨by rw [List.all_cons, inName_begins h.1.1, h.1.2]; rfl, c, t, rfl, h.1.1⟩
theorem name_len {nm : List UInt8} (h : isName nm = true) : nm.length ≤ 32 := by
  cases nm with
  | nil => cases h
  | cons c t =>
    simp only [isName, Bool.and_eq_true, decide_eq_true_eq] at h
    simpa using h.2
theorem tw_all {p : UInt8 → Bool} : ∀ (l : List UInt8) (c : UInt8) (r : List UInt8), l.all p = true → p c = false → (l ++ c :: r).takeWhile p = l ∧ (l ++ c :: r).dropWhile p = c :: r
  | [], c, r, _, hc => by simp [hc]
  | a :: l, c, r, hl, hc => by
    rw [List.all_cons, Bool.and_eq_true] at hl
    obtain ⟨h1, h2⟩ := tw_all l c r hl.2 hc
    rw [List.cons_append, List.takeWhile_cons_of_pos hl.1, List.dropWhile_cons_of_pos hl.1, h1, h2]
    exact ⟨rfl, rfl⟩
theorem pre_ne {c d : UInt8} {r t : List UInt8} (h : ¬ d = c) : Lib.hasPrefix (c :: r) (d :: t) = false := by
  unfold Lib.hasPrefix
  rw [List.isPrefixOf_cons_cons, beq_eq_false_iff_ne.2 h, Bool.false_and]
theorem pre_eq {c : UInt8} {r t : List UInt8} : Lib.hasPrefix (c :: r) (c :: t) = Lib.hasPrefix r t := by
  unfold Lib.hasPrefix
  rw [List.isPrefixOf_cons_cons, beq_self_eq_true, Bool.true_and]
theorem pre_nil {r : List UInt8} : Lib.hasPrefix r [] = true := by
  unfold Lib.hasPrefix
  cases r <;> rfl
theorem writtenX_name {nm r : List UInt8} {c : UInt8} (h : isName nm = true) (hc : inNameC c = false) (h58 : ¬ 58 = c) : writtenX (nm ++ c :: r) = ((([], nm), true), c :: r) := by
  obtain ⟨h1, h2⟩ := tw_all nm c r (name_all h).1 hc
  unfold writtenX nameX
  simp only [h1, h2, h, pre_ne h58, Bool.and_false, Bool.false_eq_true, if_false]
theorem dropB_of {c : UInt8} {r : List UInt8} (h : ([32, 9, 10, 13] : List UInt8).contains c = false) : dropB (c :: r) = c :: r := by
  unfold dropB Lib.trimLeftS
  rw [List.dropWhile_cons_of_neg (by rw [h]; simp)]
theorem tagX_name {nm r : List UInt8} (h : isName nm = true) : tagX ([60] ++ nm ++ [62] ++ r) = .ok (⟨([], nm), [], false⟩, r) := by
  have e : ([60] ++ nm ++ [62] ++ r).drop 1 = nm ++ 62 :: r := by simp
  have h2 := writtenX_name (r := r) h (c := 62) (by decide) (by decide)
  have e3 : dropB (62 :: r) = 62 :: r := dropB_of (by decide)
  have e4 : Lib.hasPrefix (62 :: r) [62] = true := by rw [pre_eq, pre_nil]
  have e5 : Lib.hasPrefix ([60] ++ nm ++ [62] ++ r) [60] = true := by
    show Lib.hasPrefix (60 :: (nm ++ [62] ++ r)) [60] = true
    rw [pre_eq, pre_nil]
  unfold tagX
  rw [e5, e, h2, if_neg (by simp), if_neg (by simp)]
  unfold tagLoop
  rw [e3, e4, if_pos rfl]
  rfl
theorem beginX_name (nm : List UInt8) : beginX [] ⟨([], nm), [], false⟩ = .ok ([], .mk [] nm [] [] []) := rfl
theorem endX_name {nm r : List UInt8} (h : isName nm = true) : endX ([], nm) (nm ++ 62 :: r) = some r := by
  have h2 := writtenX_name (r := r) h (c := 62) (by decide) (by decide)
  have e3 : dropB (62 :: r) = 62 :: r := dropB_of (by decide)
  have e4 : Lib.hasPrefix (62 :: r) [62] = true := by rw [pre_eq, pre_nil]
  unfold endX
  rw [h2]
  simp only [e3, e4]
  rfl
/-- So many, one in the other, and what follows. -/
def D (nm : List UInt8) : Nat → List UInt8 → List UInt8
  | 0, r => r
  | m + 1, r => [60] ++ nm ++ [62] ++ D nm m ([60, 47] ++ nm ++ [62] ++ r)
def nest (nm : List UInt8) : Nat → PE
  | 0 => .mk [] nm [] [] []
  | m + 1 => .mk [] nm [] [] [nest nm m]
theorem close_parts (el : List UInt8 → R (PE × List UInt8)) (f : Nat) (c : Ct) (nm r : List UInt8) : partsX el (f + 1) c ([60, 47] ++ nm ++ [62] ++ r) = .ok (c, nm ++ 62 :: r) := by
  unfold partsX
  rw [if_pos (by show Lib.hasPrefix (60 :: 47 :: (nm ++ [62] ++ r)) [60, 47] = true; rw [pre_eq, pre_eq, pre_nil])]
  simp
theorem kid_parts (el : List UInt8 → R (PE × List UInt8)) (f : Nat) (c : Ct) {nm t : List UInt8} (h : isName nm = true) (hk : c.kids.length < 256) : partsX el (f + 1) c ([60] ++ nm ++ t) = (el ([60] ++ nm ++ t)).bind fun x => partsX el f ⟨c.text, c.solid, c.kids ++ [x.1]⟩ x.2 := by
  obtain ⟨_, a, s, rfl, ha⟩ := name_all h
  have h47 : ¬ 47 = a := fun e => by subst e; exact absurd ha (by decide)
  have h33 : ¬ 33 = a := fun e => by subst e; exact absurd ha (by decide)
  show partsX el (f + 1) c (60 :: a :: (s ++ t)) = (el (60 :: a :: (s ++ t))).bind _
  conv => lhs; unfold partsX
  rw [pre_eq, pre_ne h47, if_neg (by simp)]
  unfold partX
  rw [pre_eq, pre_ne h33, if_neg (by simp), pre_eq, pre_ne h33, if_neg (by simp), pre_eq, pre_nil, if_pos rfl]
  cases el (60 :: a :: (s ++ t)) with
  | no => rfl
  | bad e => rfl
  | ok x =>
    show R.bind (if c.kids.length = 256 then _ else _) _ = _
    rw [if_neg (by omega)]
    rfl
theorem D_head (nm : List UInt8) (m : Nat) (r : List UInt8) : ∃ t, D nm (m + 1) r = [60] ++ nm ++ t := ⟨_, by unfold D; rw [List.append_assoc]⟩
theorem content_zero (el : List UInt8 → R (PE × List UInt8)) {nm r : List UInt8} (h : isName nm = true) : contentX el ([], nm) ([60, 47] ++ nm ++ [62] ++ r) = .ok (([], []), r) := by
  unfold contentX
  rw [close_parts]
  show (match endX ([], nm) (nm ++ 62 :: r) with | none => _ | some r2 => _) = _
  rw [endX_name h]
  rfl
theorem content_kid (el : List UInt8 → R (PE × List UInt8)) {nm r t : List UInt8} (h : isName nm = true) {k : PE} (ht : el ([60] ++ nm ++ t) = .ok (k, [60, 47] ++ nm ++ [62] ++ r)) : contentX el ([], nm) ([60] ++ nm ++ t) = .ok (([], [k]), r) := by
  unfold contentX
  rw [kid_parts _ _ _ h (by simp), ht]
  have hl : ([60] ++ nm ++ t).length = (nm ++ t).length + 1 := by simp
  rw [hl]
  show R.bind (partsX el ((nm ++ t).length + 1) ⟨[], false, [] ++ [k]⟩ ([60, 47] ++ nm ++ [62] ++ r)) _ = _
  rw [close_parts]
  show (match endX ([], nm) (nm ++ 62 :: r) with | none => _ | some r2 => _) = _
  rw [endX_name h]
  rfl
theorem content_bad (el : List UInt8 → R (PE × List UInt8)) {nm t : List UInt8} (h : isName nm = true) {e : Nat} (ht : el ([60] ++ nm ++ t) = .bad e) (n : Wn) : contentX el n ([60] ++ nm ++ t) = .bad e := by
  unfold contentX
  rw [kid_parts _ _ _ h (by simp), ht]
  rfl
theorem elem_D {nm : List UInt8} (h : isName nm = true) : ∀ (m f : Nat) (r : List UInt8), m + 1 ≤ f → elemX f [] (D nm (m + 1) r) = .ok (nest nm m, r)
  | m, 0, r, hf => by omega
  | 0, f + 1, r, hf => by
    rw [elemX_eq]
    unfold D
    rw [tagX_name h]
    show R.bind (contentX (elemX f []) ([], nm) (D nm 0 ([60, 47] ++ nm ++ [62] ++ r))) _ = _
    unfold D
    rw [content_zero _ h]
    rfl
  | m + 1, f + 1, r, hf => by
    rw [elemX_eq]
    unfold D
    rw [tagX_name h]
    show R.bind (contentX (elemX f []) ([], nm) (D nm (m + 1) ([60, 47] ++ nm ++ [62] ++ r))) _ = _
    have h1 := elem_D h m f ([60, 47] ++ nm ++ [62] ++ r) (by omega)
    obtain ⟨t, ht⟩ := D_head nm m ([60, 47] ++ nm ++ [62] ++ r)
    rw [ht] at h1 ⊢
    rw [content_kid _ h h1]
    rfl
theorem elem_deep {nm : List UInt8} (h : isName nm = true) : ∀ (f m : Nat) (r : List UInt8), f ≤ m → elemX f [] (D nm (m + 1) r) = .bad 10
  | 0, m, r, _ => rfl
  | f + 1, 0, r, hf => by omega
  | f + 1, m + 1, r, hf => by
    rw [elemX_eq]
    unfold D
    rw [tagX_name h]
    show R.bind (contentX (elemX f []) ([], nm) (D nm (m + 1) ([60, 47] ++ nm ++ [62] ++ r))) _ = _
    have h1 := elem_deep h f m ([60, 47] ++ nm ++ [62] ++ r) (by omega)
    obtain ⟨t, ht⟩ := D_head nm m ([60, 47] ++ nm ++ [62] ++ r)
    rw [ht] at h1 ⊢
    rw [content_bad _ h h1]
    rfl
theorem D_len (nm : List UInt8) : ∀ (m : Nat) (r : List UInt8), (D nm m r).length = m * (2 * nm.length + 5) + r.length
  | 0, r => by simp [D]
  | m + 1, r => by
    unfold D
    rw [List.length_append, D_len nm m]
    simp only [List.length_append, List.length_cons, List.length_nil, Nat.succ_mul]
    omega
theorem sign_inName {c : UInt8} (h : inNameC c = true) : signC c = true := by
  unfold inNameC inNameN beginsN at h
  unfold signC signN
  simp only [Bool.or_eq_true, Bool.and_eq_true, decide_eq_true_eq, beq_iff_eq] at h ⊢
  omega
theorem D_sign {nm : List UInt8} (h : isName nm = true) : ∀ (m : Nat) (r : List UInt8), r.all signC = true → (D nm m r).all signC = true
  | 0, r, hr => hr
  | m + 1, r, hr => by
    have hn : nm.all signC = true := List.all_eq_true.2 fun c hc => sign_inName (List.all_eq_true.1 (name_all h).1 c hc)
    unfold D
    rw [List.all_append, List.all_append, List.all_append, hn, D_sign h m _ (by rw [List.all_append, List.all_append, List.all_append, hn, hr]; rfl)]
    rfl
theorem docX_of {l : List UInt8} {c : UInt8} {t : List UInt8} (hl : l = 60 :: c :: t) (h1 : ¬ 63 = c) (h2 : ¬ 33 = c) : docX l = (elemX 16 [] l).bind fun x => (betweenX (x.2.length + 1) x.2).bind fun r3 => if r3 = [] then .ok x.1 else .bad 3 := by
  subst hl
  have e1 : Lib.hasPrefix (60 :: c :: t) [60, 63, 120, 109, 108, 32] = false := by rw [pre_eq, pre_ne h1]
  have e2 : dropB (60 :: c :: t) = 60 :: c :: t := dropB_of (by decide)
  have e3 : Lib.hasPrefix (60 :: c :: t) [60, 33, 45, 45] = false := by rw [pre_eq, pre_ne h2]
  rw [docX_eq e1]
  unfold betweenX
  rw [e2, e3, if_neg (by simp)]
  rfl
theorem parse_D {nm : List UInt8} (h : isName nm = true) (m : Nat) (hm : m < 25) : parseX (D nm (m + 1) []) = if m < 16 then .ok (nest nm m) else .bad 10 := by
  obtain ⟨t, ht⟩ := D_head nm m []
  obtain ⟨_, a, s, hs, ha⟩ := name_all h
  have h63 : ¬ 63 = a := fun e => by subst e; exact absurd ha (by decide)
  have h33 : ¬ 33 = a := fun e => by subst e; exact absurd ha (by decide)
  have hcons : D nm (m + 1) [] = 60 :: a :: (s ++ t) := by rw [ht, hs]; rfl
  have hlen : ¬ 16384 < (D nm (m + 1) []).length := by
    rw [D_len]
    have := name_len h
    have h2 : (m + 1) * (2 * nm.length + 5) ≤ 25 * 69 := Nat.mul_le_mul (by omega) (by omega)
    simp only [List.length_nil]
    omega
  unfold parseX
  rw [if_neg hlen, D_sign h _ _ rfl, if_neg (by simp), docX_of hcons h63 h33]
  by_cases h16 : m < 16
  · rw [if_pos h16, elem_D h m 16 [] (by omega)]
    rfl
  · rw [if_neg h16, elem_deep h 16 m [] (by omega)]
    rfl
/-- So many times the same. -/
def reps (t : List UInt8) : Nat → List UInt8
  | 0 => []
  | k + 1 => reps t k ++ t
theorem reps_front (t : List UInt8) : ∀ k, reps t (k + 1) = t ++ reps t k
  | 0 => by simp [reps]
  | k + 1 => by
    have h := reps_front t k
    have e : reps t (k + 1 + 1) = reps t (k + 1) ++ t := rfl
    have e2 : reps t (k + 1) = reps t k ++ t := rfl
    rw [e, h, List.append_assoc, ← e2, h]
theorem reps_len (t : List UInt8) : ∀ k, (reps t k).length = k * t.length
  | 0 => by simp [reps]
  | k + 1 => by rw [reps, List.length_append, reps_len t k, Nat.succ_mul]
theorem D_reps (nm : List UInt8) : ∀ (m : Nat) (r : List UInt8), D nm m r = reps ([60] ++ nm ++ [62]) m ++ reps ([60, 47] ++ nm ++ [62]) m ++ r
  | 0, r => by simp [D, reps]
  | m + 1, r => by
    unfold D
    rw [D_reps nm m, reps_front ([60] ++ nm ++ [62]), reps]
    simp only [List.append_assoc]
end Go.Proofs.YtchmookggegmnaaGreatDoor
namespace Go.Proofs.YtchmookggegmnaaGreatDoor
open Go Go.RowKit
def kidsN (nm : List UInt8) : Nat → List PE
  | 0 => []
  | m + 1 => [nest nm m]
theorem nest_eq (nm : List UInt8) (m : Nat) : nest nm m = .mk [] nm [] [] (kidsN nm m) := by cases m <;> rfl
/-- The cells of such an element. -/
theorem nest_cells {F : Nat → Prop} {w : World} {nm : List UInt8} {m : Nat} {c0 c1 c2 c3 c4 : Value} (h : ElV F w (nest nm m) c0 c1 c2 c3 c4) :
    c0 = .string (S []) ∧ c1 = .string (S nm) ∧ (∃ a p, c2 = .slice a 0 p) ∧ c3 = .string (S []) ∧ ∃ a p, c4 = .slice a (kidsN nm m).length p ∧ (0 < m → ∃ ad d0 d1 d2 d3 d4, a = some ad ∧ F ad.block ∧ w.cell? ad = some d0 ∧ w.cell? ⟨ad.block, ad.off + 1, none⟩ = some d1 ∧ w.cell? ⟨ad.block, ad.off + 2, none⟩ = some d2 ∧ w.cell? ⟨ad.block, ad.off + 3, none⟩ = some d3 ∧ w.cell? ⟨ad.block, ad.off + 4, none⟩ = some d4 ∧ ElV F w (nest nm (m - 1)) d0 d1 d2 d3 d4) := by
  rw [nest_eq] at h
  unfold ElV at h
  obtain ⟨h0, h1, h2, h3, cs, h4, h5⟩ := h
  obtain ⟨a2, p2, h2, -⟩ := h2.sl
  obtain ⟨ao, p4, h6, h7, h8, h9, h10, h11⟩ := h4
  refine ⟨h0, h1, ⟨a2, p2, h2⟩, h3, ao, p4, h6, fun hm => ?_⟩
  cases m with
  | zero => omega
  | succ m =>
    unfold kidsN ElsV at h5
    obtain ⟨d0, d1, d2, d3, d4, rest, rfl, h5, -⟩ := h5
    cases ao with
    | none => have := h10 rfl; simp [kidsN] at h8; omega
    | some ad =>
      have hc := fun i u hu => (h11 ad rfl i u hu).2
      exact ⟨ad, d0, d1, d2, d3, d4, rfl, (h11 ad rfl 0 _ rfl).1, hc 0 _ rfl, hc 1 _ rfl, hc 2 _ rfl, hc 3 _ rfl, hc 4 _ rfl, h5⟩
theorem S_lit (a : List UInt8) : ({ data := a.toArray } : ByteArray) = S a := rfl
theorem w64_in (n : Int) (h : -9223372036854775808 ≤ n ∧ n ≤ 9223372036854775807) : wrap64 n = n := by unfold wrap64; omega
theorem deep_num {n0 : Int} : ∃ m : Nat, m < 25 ∧ wrap64 ((wrap64 (n0.tmod 25 + 25)).tmod 25 + 1) = (m : Int) + 1 := by
  have h1 := Int.tmod_lt_of_pos n0 (show (0 : Int) < 25 by decide)
  have h2 : -25 < n0.tmod 25 := by
    have h3 := Int.neg_tmod n0 25
    have h4 := Int.tmod_lt_of_pos (-n0) (show (0 : Int) < 25 by decide)
    omega
  rw [w64_in (n0.tmod 25 + 25) (by omega)]
  obtain ⟨y, hy⟩ : ∃ y, y = n0.tmod 25 + 25 := ⟨_, rfl⟩
  rw [← hy]
  have h5 := Int.tmod_lt_of_pos y (show (0 : Int) < 25 by decide)
  have h6 := Int.tmod_nonneg (a := y) 25 (by omega)
  rw [w64_in _ (by omega)]
  exact ⟨(y.tmod 25).toNat, by omega, by omega⟩
set_option maxRecDepth 20000 in
set_option maxHeartbeats 8000000 in
theorem deep_any (n0 : Int) (l : List UInt8) (w : World) (hm : Ml w) (_h1 : -9223372036854775808 ≤ n0) (_h2 : n0 ≤ 9223372036854775807) (hl : l.length ≤ 9223372036854775807) : Calls Tryz.prog 4 #[.int .i64 n0, .string (S l)] w fun e w' => e = .returned (.bool true) ∧ Kp0 w w' := by
  have HM := Lib.hid hm
  have HL := Lib.hid hl
  clear hm hl
  go_enter Tryz.func4, Tryz.ntmps4
  go_upto_region 4 with (go_at_call 6; refine (fit_any _ HM.out).mono ?_; rintro e1 w1 ⟨rfl, hk⟩; have HK1 := Lib.hid hk; clear hk)
  obtain ⟨m, hm25, he⟩ := deep_num (n0 := n0)
  rw [he]
  clear he
  obtain ⟨r, hr⟩ : ∃ r, r = isName l := ⟨_, rfl⟩
  have HR := Lib.hid hr.symm
  clear hr
  cases r with
  | false =>
    go_wp2_with (first
      | (go_at_call 10; refine (refName_any l _ HL.out).mono ?_; rw [HR.out]; rintro e2 w2 ⟨rfl, rfl⟩)
      | (go_at_call 11; refine (name_any (S l) _ (by rw [S_size]; exact HL.out)).mono ?_; rw [S_toList, HR.out]; rintro e3 w3 ⟨rfl, hk⟩; have HK3 := Lib.hid (HK1.out.tr hk); clear hk))
    all_goals go_ret
    all_goals exact ⟨rfl, HK3.out⟩
  | true =>
    have hnl : (S l).size ≤ 32 := by rw [S_size]; exact name_len HR.out
    obtain ⟨t1, ht1⟩ : ∃ t, t = [60] ++ l ++ [62] := ⟨_, rfl⟩
    obtain ⟨t2, ht2⟩ : ∃ t, t = [60, 47] ++ l ++ [62] := ⟨_, rfl⟩
    have HT1 := Lib.hid ht1
    have HT2 := Lib.hid ht2
    have hl1 : t1.length ≤ 34 := by rw [ht1]; rw [S_size] at hnl; simp only [List.length_append, List.length_cons, List.length_nil]; omega
    have hl2 : t2.length ≤ 35 := by rw [ht2]; rw [S_size] at hnl; simp only [List.length_append, List.length_cons, List.length_nil]; omega
    have HL1 := Lib.hid hl1
    have HL2 := Lib.hid hl2
    clear ht1 ht2 hl1 hl2
    go_wp2_with (go_at_call 10; refine (refName_any l _ HL.out).mono ?_; rw [HR.out]; rintro e2 w2 ⟨rfl, rfl⟩)
    go_loopg [5, 22] (m + 1) (fun gg s i wr => ∃ (k : Nat), s = .string (S (reps t1 k)) ∧ i = .int .i64 k ∧ k ≤ m + 1 ∧ gg = m + 1 - k ∧ w1 = wr)
    case atStart => exact ⟨0, rfl, rfl, Nat.zero_le _, rfl, rfl⟩
    case round =>
      obtain ⟨k, rfl, rfl, hk, rfl, rfl⟩ := hrel
      have hrs : (S (reps t1 k)).size ≤ 1000 := by
        rw [S_size, reps_len]
        have : k * t1.length ≤ 25 * 34 := Nat.mul_le_mul (by omega) HL1.out
        omega
      by_cases hlt : k < m + 1
      · have hki : (k : Int) < (m : Int) + 1 := by omega
        go_wp2
        go_roundg (m + 1 - (k + 1))
        case measure => omega
        case rel => exact ⟨k + 1, by rw [S_lit, S_lit, S_app, S_app, S_app, ← HT1.out]; rfl, by go_num, by omega, rfl, rfl⟩
      · obtain rfl : k = m + 1 := by omega
        have hki : ¬ ((m + 1 : Nat) : Int) < (m : Int) + 1 := by omega
        go_wp2
        go_loopg [5, 31] (m + 1) (fun gg s i wr => ∃ (k : Nat), s = .string (S (reps t1 (m + 1) ++ reps t2 k)) ∧ i = .int .i64 k ∧ k ≤ m + 1 ∧ gg = m + 1 - k ∧ w1 = wr)
        case atStart => exact ⟨0, by show _ = Value.string (S (reps t1 (m + 1) ++ [])); rw [List.append_nil], rfl, Nat.zero_le _, rfl, rfl⟩
        case round =>
          obtain ⟨k, rfl, rfl, hk, rfl, rfl⟩ := hrel
          have hrs2 : (S (reps t1 (m + 1) ++ reps t2 k)).size ≤ 2000 := by
            rw [S_size, List.length_append, reps_len, reps_len]
            have h1 : (m + 1) * t1.length ≤ 25 * 34 := Nat.mul_le_mul (by omega) HL1.out
            have h2 : k * t2.length ≤ 25 * 35 := Nat.mul_le_mul (by omega) HL2.out
            omega
          by_cases hlt2 : k < m + 1
          · have hki2 : (k : Int) < (m : Int) + 1 := by omega
            go_wp2
            go_roundg (m + 1 - (k + 1))
            case measure => omega
            case rel => exact ⟨k + 1, by rw [S_lit, S_lit, S_app, S_app, S_app, ← HT2.out, List.append_assoc]; rfl, by go_num, by omega, rfl, rfl⟩
          · obtain rfl : k = m + 1 := by omega
            have HDD : Hid (reps t1 (m + 1) ++ reps t2 (m + 1) = D l (m + 1) []) := Lib.hid (by rw [D_reps, List.append_nil, HT1.out, HT2.out])
            have HPD := Lib.hid (parse_D HR.out m hm25)
            go_wp2_with fail
            rw [HDD.out]
            have hcall := parse_any (D l (m + 1) []) w1 (HM.out.kp0 HK1.out) (by rw [HPD.out]; split <;> (intro e; cases e))
            rw [HPD.out] at hcall
            generalize D l (m + 1) [] = dd at HPD hcall ⊢
            refine hcall.mono ?_
            clear hcall
            by_cases h16 : m < 16
            · rw [if_pos h16]
              rintro e3 w3 ⟨c0, c1, c2, c3, c4, rfl, hel, hk⟩
              have HEL := Lib.hid hel
              have HK3 := Lib.hid (HK1.out.tr hk)
              obtain ⟨rfl, rfl, ⟨a2, p2, rfl⟩, rfl, a4, p4, rfl, -⟩ := nest_cells hel
              clear hel hk
              have hm16 : ¬ (16 : Int) < (m : Int) + 1 := by omega
              obtain ⟨wA, hwA⟩ : ∃ x, x = w3.alloc (.cells #[.string (S []), .string (S l), .slice a2 0 p2, .string (S []), .slice a4 (kidsN l m).length p4] 25) := ⟨_, rfl⟩
              obtain ⟨eb, heb⟩ : ∃ x, x = w3.heap.size := ⟨_, rfl⟩
              have hkA : Kp0 w3 wA := by rw [hwA]; exact (Kp.refl _ _).alloc _
              have HBE : Hid (Blk wA eb 25 [.string (S []), .string (S l), .slice a2 0 p2, .string (S []), .slice a4 (kidsN l m).length p4]) := Lib.hid (by rw [hwA, heb]; exact blk0 w3 _ _)
              have HEA : Hid (ElV (fun i => i < eb) wA (nest l m) (.string (S [])) (.string (S l)) (.slice a2 0 p2) (.string (S [])) (.slice a4 (kidsN l m).length p4)) := Lib.hid (ElV.keep hkA (fun _ _ h => h) (fun i hi => by rw [heb]; exact hi.2) _ _ _ _ _ _ HEL.out)
              have HKA := Lib.hid (HK3.out.tr hkA)
              have HEB : Hid (w.heap.size ≤ eb) := Lib.hid (by rw [heb]; exact HK3.out.size)
              go_wp2
              rw [← hwA, ← heb]
              clear hwA heb hkA HEL HK3
              go_loopg [55] m (fun gg i wr => ∃ (k : Nat) (c0 c1 c2 c3 c4 : Value), i = .int .i64 k ∧ k ≤ m ∧ gg = m - k ∧ Blk wr eb 25 [c0, c1, c2, c3, c4] ∧ ElV (fun i => i < eb) wr (nest l (m - k)) c0 c1 c2 c3 c4 ∧ Kp0 w wr)
              case atStart => exact ⟨0, _, _, _, _, _, rfl, Nat.zero_le _, rfl, HBE.out, HEA.out, HKA.out⟩
              case round =>
                obtain ⟨k, c0, c1, c2, c3, c4, rfl, hk, rfl, hb, hel, hkp⟩ := hrel
                have HB := Lib.hid hb
                have HKP := Lib.hid hkp
                have HE := Lib.hid hel
                obtain ⟨rfl, rfl, ⟨a2, p2, rfl⟩, rfl, a4, p4, rfl, hkid⟩ := nest_cells hel
                have e0 := hb.cellV 0 rfl
                have e1 := hb.cellV 1 rfl
                have e2 := hb.cellV 2 rfl
                have e3 := hb.cellV 3 rfl
                have e4 := hb.cellV 4 rfl
                have f0 := blk_frozen hb 0
                have f1 := blk_frozen hb 1
                have f2 := blk_frozen hb 2
                have f3 := blk_frozen hb 3
                have f4 := blk_frozen hb 4
                clear hb hel hkp
                by_cases hlt : k < m
                · have hki : (k : Int) < m := by omega
                  obtain ⟨j, hj⟩ : ∃ j, m - k = j + 1 := ⟨m - k - 1, by omega⟩
                  obtain ⟨ad, d0, d1, d2, d3, d4, rfl, hf, q0, q1, q2, q3, q4, hke⟩ := hkid (by omega)
                  have hj2 : m - k - 1 = m - (k + 1) := by omega
                  rw [hj2] at hke
                  have HKE := Lib.hid hke
                  have HF := Lib.hid hf
                  obtain ⟨rfl, rfl, ⟨a5, p5, rfl⟩, rfl, a6, p6, rfl, -⟩ := nest_cells hke
                  rw [hj] at e4
                  clear hke hkid hf
                  have hl1 : (kidsN l (j + 1)).length = 1 := rfl
                  rw [hl1] at e4
                  go_wp2
                  have hk5 := kp_set5 wr eb (.string (S [])) (.string (S l)) (.slice a5 0 p5) (.string (S [])) (.slice a6 (kidsN l (m - (k + 1))).length p6)
                  have HB5 : Hid (Blk (((((wr.setCell ⟨eb, 0, none⟩ (.string (S []))).setCell ⟨eb, 1, none⟩ (.string (S l))).setCell ⟨eb, 2, none⟩ (.slice a5 0 p5)).setCell ⟨eb, 3, none⟩ (.string (S []))).setCell ⟨eb, 4, none⟩ (.slice a6 (kidsN l (m - (k + 1))).length p6)) eb 25 [.string (S []), .string (S l), .slice a5 0 p5, .string (S []), .slice a6 (kidsN l (m - (k + 1))).length p6]) := Lib.hid (heap_set (heap_set (heap_set (heap_set (heap_set HB.out 0 _) 1 _) 2 _) 3 _) 4 _)
                  go_roundg (m - (k + 1))
                  case measure => omega
                  case rel => exact ⟨k + 1, _, _, _, _, _, by go_num, by omega, rfl, HB5.out, ElV.keep hk5 (fun i hi e => by omega) (fun _ h => h) _ _ _ _ _ _ HKE.out, HKP.out.new hk5 (fun i e => by have := HEB.out; omega)⟩
                · obtain rfl : k = m := by omega
                  have hki : ¬ (k : Int) < k := by omega
                  have hz : (kidsN l (k - k)).length = 0 := by rw [Nat.sub_self]; rfl
                  rw [hz] at e4
                  go_wp2
                  all_goals go_ret
                  all_goals exact ⟨rfl, HKP.out⟩
            · rw [if_neg h16]
              rintro e3 w3 ⟨rfl, _, _, hk⟩
              have HK3 := Lib.hid (HK1.out.tr hk)
              clear hk
              have hm16 : (16 : Int) < (m : Int) + 1 := by omega
              go_wp2
              all_goals go_ret
              all_goals exact ⟨rfl, HK3.out.alloc _⟩
theorem deep_walk (a0 : Int) (s1 : ByteArray) (W : World) (ml : Ml W) (w0 : -9223372036854775808 ≤ a0 ∧ a0 ≤ 9223372036854775807) (b1 : s1.size ≤ 140737488351232) : Calls Tryz.prog 4 #[.int .i64 a0, .string s1] W fun e w' => e = .returned (.bool true) ∧ Kp0 W w' := by
  have h := deep_any a0 s1.toList W ml w0.1 w0.2 (by rw [size_toList]; omega)
  rw [S_of] at h
  exact h
end Go.Proofs.YtchmookggegmnaaGreatDoor
