/- The law PacketSizes: how long a packet is. -/
import Derived.Test.YtnbfedmecmdjlaaDoorPkI
namespace Go.Proofs.YtnbfedmecmdjlaaDoor
open Go Go.RowKit
/-- What is asked of the padding. -/
theorem seal_size (d : Dn) (l s : List UInt8) : ∃ q, (sealB d l s).length = unitD d * q + tailD d ∧ 5 + l.length + 4 ≤ unitD d * q ∧ unitD d * q < 5 + l.length + 4 + unitD d := by
  have h1 := unitD_or d
  have h2 := padN_le l.length (unitD d) (by omega)
  have h3 : (5 + l.length + padD d l.length) % unitD d = 0 := by
    unfold padD padN
    rcases h1 with h | h <;> rw [h] <;> omega
  refine ⟨(5 + l.length + padD d l.length) / unitD d, ?_, ?_, ?_⟩
  · rw [sealB_len, Nat.mul_div_cancel' (Nat.dvd_of_mod_eq_zero h3)]
  · rw [Nat.mul_div_cancel' (Nat.dvd_of_mod_eq_zero h3)]
    unfold padD
    omega
  · rw [Nat.mul_div_cancel' (Nat.dvd_of_mod_eq_zero h3)]
    unfold padD
    omega
theorem number_is {B b : Nat} {T : TypeId} {rest : List Value} {d : Dn} {sg : Option Nat} {w : World} {n : Nat} (h : DirM B w b T rest d sg) (hn : d.num = n) :
    Calls Tryd.prog 13 #[.pointer (some ⟨b, 0, none⟩)] w fun e w' => e = .returned (.int .u32 (n : Int)) ∧ w = w' := by
  subst hn
  exact number_any B b T rest d sg w h
theorem taken_unit (d : Dn) (l1 l2 l3 : List UInt8) : unitD (taken d l1 l2 l3) = 16 := rfl
theorem taken_tail (d : Dn) (l1 l2 l3 : List UInt8) : tailD (taken d l1 l2 l3) = 32 := rfl
attribute [local irreducible] sealB wroteD
set_option maxRecDepth 20000 in
set_option maxHeartbeats 8000000 in
theorem psizes_walk (v : Value) (l : List UInt8) (keyed : Bool) (s : ByteArray) (w : World) (ht : TabM w.heap.size w) (hv : Rd w v (bys l)) (hm : l.length ≤ 9223372036854775807) :
    Calls Tryd.prog 5 #[v, .bool keyed, .string s] w fun e w' => e = .returned (.bool true) ∧ Kp0 w w' := by
  obtain ⟨a, c, rfl, -, -, -⟩ := hv.shapeB
  have HT := Lib.hid ht
  have HV := Lib.hid hv
  have HM := Lib.hid hm
  clear ht hv hm
  go_enter Tryd.func5, Tryd.ntmps5
  by_cases hg : 3000 < l.length ∨ 300 < s.size
  · have h1 : ¬ ((l.length : Int) ≤ 3000 ∧ (s.size : Int) ≤ 300) := by omega
    clear hg
    go_wp2_with (first
    | (go_at_call 8
       refine (pfit_any _ HT.out).mono ?_
       rintro e w2 ⟨rfl, hk⟩
       have HK2 := Lib.hid hk
       clear hk))
    all_goals first | (go_ret; exact ⟨rfl, HK2.out⟩) | (exfalso; omega) | trace_state
  have h1 : (l.length : Int) ≤ 3000 := by omega
  have h2 : (s.size : Int) ≤ 300 := by omega
  have HS : Hid (s.size ≤ 140737488351232) := Lib.hid (by omega)
  clear hg
  by_cases hl : l.length = 0 ∨ 2048 < l.length
  · have HL := Lib.hid hl
    cases keyed <;> (
    go_wp2_with (first
    | (go_at_call 8
       refine (pfit_any _ HT.out).mono ?_
       rintro e w2 ⟨rfl, hk⟩
       have HK2 := Lib.hid hk
       clear hk)
    | (refine wl_alloc_as asW rfl rfl ?_
       intro w3 b3 hw hb
       have HD : Hid (∃ d sg, DirM w.heap.size w3 b3 31 [] d sg ∧ Kp0 w w3 ∧ w.heap.size ≤ b3 ∧ (∀ g, sg = some g → w.heap.size ≤ g) ∧ unitD d = 8 ∧ tailD d = 0 ∧ d.num = 0 ∧ d.cnt = 0) := Lib.hid ⟨d0, none, by rw [hw, hb]; exact dir_new _ _ _ _ HK2.out.size, by rw [hw]; exact HK2.out.alloc _, by rw [hb]; exact HK2.out.size, (fun _ h => by cases h), rfl, rfl, rfl, rfl⟩
       clear hw hb
       simp only [Act.put, List.getElem_toArray, List.getElem_cons_succ, List.getElem_cons_zero])
    | (go_at_call 15
       refine (keys_any 3 _ (by decide)).mono ?_
       rintro e w4 ⟨v1, v2, v3, rfl, q1, q2, q3, hk⟩
       have HQ := Lib.hid (And.intro q1 (And.intro q2 q3))
       have HKK := Lib.hid hk
       clear q1 q2 q3 hk)
    | (go_at_call 16
       obtain ⟨d, sg, hd, hk0, hge, hsg, -, -, hn, hc⟩ := HD.out
       refine (take_ok w.heap.size b3 _ [] d sg v1 v2 v3 _ _ _ _ (hd.kp0 HKK.out) (HT.out.kp0 (hk0.tr HKK.out)) HQ.out.1 HQ.out.2.1 HQ.out.2.2 (keys_ok 3)).mono ?_
       rintro e w5 ⟨rfl, g, hg, hD, hK⟩
       have HD : Hid (∃ d sg, DirM w.heap.size w5 b3 31 [] d sg ∧ Kp0 w w5 ∧ w.heap.size ≤ b3 ∧ (∀ g, sg = some g → w.heap.size ≤ g) ∧ unitD d = 16 ∧ tailD d = 32 ∧ d.num = 0 ∧ d.cnt = 0) := Lib.hid ⟨_, some g, hD, (hk0.tr HKK.out).trans hK (fun _ _ h => h) (fun i hi e => by omega), hge, (fun g' e => by cases e; exact Nat.le_trans (hk0.tr HKK.out).size hg), taken_unit _ _ _ _, taken_tail _ _ _ _, hn, rfl⟩
       clear hd hk0 hge hsg hn hc hg hD hK)
    | (go_at_call 10
       obtain ⟨d, sg, hd, hk0, -⟩ := HD.out
       refine (write_no b3 _ l s _ (HV.out.keep0 hk0) HL.out HM.out).mono ?_
       rintro e w6 ⟨rfl, rfl⟩
       clear hd hk0)
    | (go_at_call 13
       obtain ⟨d, sg, hd, hk0, hge, hsg, -, -, hn, hc⟩ := HD.out
       refine (number_is hd hn).mono ?_
       rintro e w7 ⟨rfl, rfl⟩
       clear hd hk0 hge hsg hn hc)))
    all_goals first | (exfalso; have := HL.out; simp only [← List.length_eq_zero_iff, beq_eq_false_iff_ne, beq_iff_eq, ne_eq] at *; omega) | (obtain ⟨d, sg, hd, hk0, -⟩ := HD.out; go_ret; exact ⟨rfl, hk0⟩) | trace_state
  · have hl1 : 0 < l.length ∧ l.length ≤ 2048 := by omega
    have HL := Lib.hid hl1
    cases keyed <;> (
    go_wp2_with (first
    | (go_at_call 8
       refine (pfit_any _ HT.out).mono ?_
       rintro e w2 ⟨rfl, hk⟩
       have HK2 := Lib.hid hk
       clear hk)
    | (refine wl_alloc_as asW rfl rfl ?_
       intro w3 b3 hw hb
       have HD : Hid (∃ d sg, DirM w.heap.size w3 b3 31 [] d sg ∧ Kp0 w w3 ∧ w.heap.size ≤ b3 ∧ (∀ g, sg = some g → w.heap.size ≤ g) ∧ unitD d = 8 ∧ tailD d = 0 ∧ d.num = 0 ∧ d.cnt = 0) := Lib.hid ⟨d0, none, by rw [hw, hb]; exact dir_new _ _ _ _ HK2.out.size, by rw [hw]; exact HK2.out.alloc _, by rw [hb]; exact HK2.out.size, (fun _ h => by cases h), rfl, rfl, rfl, rfl⟩
       clear hw hb
       simp only [Act.put, List.getElem_toArray, List.getElem_cons_succ, List.getElem_cons_zero])
    | (go_at_call 15
       refine (keys_any 3 _ (by decide)).mono ?_
       rintro e w4 ⟨v1, v2, v3, rfl, q1, q2, q3, hk⟩
       have HQ := Lib.hid (And.intro q1 (And.intro q2 q3))
       have HKK := Lib.hid hk
       clear q1 q2 q3 hk)
    | (go_at_call 16
       obtain ⟨d, sg, hd, hk0, hge, hsg, -, -, hn, hc⟩ := HD.out
       refine (take_ok w.heap.size b3 _ [] d sg v1 v2 v3 _ _ _ _ (hd.kp0 HKK.out) (HT.out.kp0 (hk0.tr HKK.out)) HQ.out.1 HQ.out.2.1 HQ.out.2.2 (keys_ok 3)).mono ?_
       rintro e w5 ⟨rfl, g, hg, hD, hK⟩
       have HD : Hid (∃ d sg, DirM w.heap.size w5 b3 31 [] d sg ∧ Kp0 w w5 ∧ w.heap.size ≤ b3 ∧ (∀ g, sg = some g → w.heap.size ≤ g) ∧ unitD d = 16 ∧ tailD d = 32 ∧ d.num = 0 ∧ d.cnt = 0) := Lib.hid ⟨_, some g, hD, (hk0.tr HKK.out).trans hK (fun _ _ h => h) (fun i hi e => by omega), hge, (fun g' e => by cases e; exact Nat.le_trans (hk0.tr HKK.out).size hg), taken_unit _ _ _ _, taken_tail _ _ _ _, hn, rfl⟩
       clear hd hk0 hge hsg hn hc hg hD hK)
    | (go_at_call 10
       obtain ⟨d, sg, hd, hk0, hge, hsg, hu, htl, hn, hc⟩ := HD.out
       refine (write_any w.heap.size b3 _ _ d sg _ l s _ hd (HT.out.kp0 hk0) (HV.out.keep0 hk0) HL.out HS.out (by omega)).mono ?_
       rintro e w6 ⟨v6, rfl, q1, -, q3⟩
       obtain ⟨q, hq, h3, h4⟩ := seal_size d l s.toList
       rw [hu] at h3 h4
       rw [hu, htl] at hq
       obtain ⟨g6, o6, c6, rfl, -, -, -⟩ := q1.posB (by omega)
       have HKF : Hid (Kp0 w w6) := Lib.hid (hk0.trans q3 (fun _ _ h => h) (fun i hi e => by rcases e with e | e; omega; have := hsg _ e; omega))
       rw [hq]
       clear hd hk0 hge hsg hu htl hn hc q1 q3 hq)))
    all_goals first | (exfalso; have := HL.out; simp only [← List.length_eq_zero_iff, beq_eq_false_iff_ne, beq_iff_eq, ne_eq] at *; omega) | (go_ret; exact ⟨(by rw [decide_eq_true (by omega)]; rfl), HKF.out⟩) | trace_state
end Go.Proofs.YtnbfedmecmdjlaaDoor
