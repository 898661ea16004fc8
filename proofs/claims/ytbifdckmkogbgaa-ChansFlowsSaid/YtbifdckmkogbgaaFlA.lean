/- The law ChansFlows: the calls that came in. -/
import Derived.Test.YtbifdckmkogbgaaChY
import Derived.Deep.SlicePairs
namespace Go.Proofs.Ytbifdckmkogbgaa
open Go Go.RowKit
/-- A row of calls: each a kind and bytes. -/
structure CallsR (w : World) (v : Value) (ls : List (Int × List UInt8)) : Prop where
  sh : ∃ ao cap, v = .slice ao ls.length cap ∧ ls.length ≤ cap ∧ cap ≤ 9223372036854775807 ∧ ∀ (i : Nat) (x : Int × List UInt8), ls[i]? = some x → ∃ b o dv, ao = some ⟨b, o, none⟩ ∧ w.cell? ⟨b, o + i * 2, none⟩ = some (.int .i64 x.1) ∧ w.cell? ⟨b, o + i * 2 + 1, none⟩ = some dv ∧ Rd w dv (bys x.2) ∧ x.2.length ≤ 140737488351232
theorem CallsR.keep0 {w w1 : World} {v : Value} {ls : List (Int × List UInt8)} (h : CallsR w v ls) (hk : Kp0 w w1) : CallsR w1 v ls := by
  obtain ⟨ao, cap, h1, h2, h3, h4⟩ := h.sh
  refine ⟨ao, cap, h1, h2, h3, fun i x hx => ?_⟩
  obtain ⟨b, o, dv, q1, q2, q3, q4, q5⟩ := h4 i x hx
  exact ⟨b, o, dv, q1, hk.cell q2 (fun h => h), hk.cell q3 (fun h => h), q4.keep0 hk, q5⟩
def sumF (ls : List (Int × List UInt8)) : Nat := (ls.map (fun x => 1 + x.2.length / 100)).sum
def sumL (ls : List (Int × List UInt8)) : Nat := (ls.map (fun x => x.2.length)).sum
theorem sumL_le (ls : List (Int × List UInt8)) : sumL ls ≤ 100 * sumF ls := by
  induction ls with
  | nil => simp [sumL, sumF]
  | cons x l ih =>
    unfold sumL sumF at *
    simp only [List.map_cons, List.sum_cons]
    omega
theorem sumF_take {ls : List (Int × List UInt8)} {k : Nat} {x : Int × List UInt8} (h : ls[k]? = some x) : sumF (ls.take (k + 1)) = sumF (ls.take k) + (1 + x.2.length / 100) := by
  unfold sumF
  rw [List.take_add_one, h]
  simp
set_option maxHeartbeats 1000000 in
theorem light_any (v : Value) (ls : List (Int × List UInt8)) (w : World) (h : CallsR w v ls) :
    Calls Try.prog 9 #[v] w fun e w' => ∃ r, e = .returned (.bool r) ∧ (r = true → sumL ls ≤ 15000) ∧ Kp0 w w' := by
  have H := Lib.hid h
  obtain ⟨ao, cap, rfl, hc1, hc2, hc3⟩ := h.sh
  have HC := Lib.hid hc3
  have hrl : (ls.length : Int) ≤ 9223372036854775807 := by omega
  clear h hc3 hc2
  go_enter Try.func9, Try.ntmps9
  go_wp2
  go_loopg [3, 8] ls.length (fun gg n i wr => ∃ k : Nat, i = .int .i64 k ∧ n = .int .i64 ((sumF (ls.take k) : Nat) : Int) ∧ gg = ls.length - k ∧ k ≤ ls.length ∧ sumF (ls.take k) ≤ 150 ∧ Kp0 w wr)
  case atStart => exact ⟨0, rfl, rfl, rfl, Nat.zero_le _, by simp [sumF], Kp.refl _ _⟩
  case round =>
    obtain ⟨k, rfl, rfl, rfl, hk, hs, hkp⟩ := hrel
    have HK := Lib.hid hkp
    obtain ⟨n0, hn0⟩ : ∃ n0, n0 = sumF (ls.take k) := ⟨_, rfl⟩
    rw [← hn0] at hs ⊢
    have HN0 := Lib.hid hn0
    clear hkp hn0
    by_cases hlt : k < ls.length
    · have hlti : (k : Int) < ls.length := by omega
      obtain ⟨x, hx⟩ : ∃ x, ls[k]? = some x := ⟨_, List.getElem?_eq_getElem hlt⟩
      obtain ⟨b, o, dv, rfl, q1, q2, q3, q4⟩ := HC.out k x hx
      have c1 := HK.out.cell q1 (fun h => h)
      have c2 := HK.out.cell q2 (fun h => h)
      obtain ⟨av, cv, rfl, _, _, _⟩ := q3.shapeB
      obtain ⟨m, hm⟩ : ∃ m, m = n0 + (1 + x.2.length / 100) := ⟨_, rfl⟩
      have hq : ((x.2.length : Nat) : Int).tdiv 100 = ((x.2.length / 100 : Nat) : Int) := by rw [Int.tdiv_eq_ediv_of_nonneg (by omega)]; rfl
      have HM : Hid (m = sumF (ls.take (k + 1))) := Lib.hid (by rw [sumF_take hx, hm, HN0.out])
      have HE := Lib.hid hlt
      have hz1 : x.2.length / 100 ≤ 140737488351232 := by omega
      generalize x.2.length / 100 = z1 at hq hm hz1 ⊢
      have hw0 : IntKind.i64.wrap (z1 : Int) = (z1 : Int) := by rw [IntKind.wrap_i64]; omega
      have hw1 : IntKind.i64.wrap (1 + (z1 : Int)) = ((1 + z1 : Nat) : Int) := by rw [IntKind.wrap_i64]; omega
      have hw2 : IntKind.i64.wrap ((n0 : Int) + ((1 + z1 : Nat) : Int)) = (m : Int) := by rw [IntKind.wrap_i64]; omega
      clear q1 q2 q3 q4 hx hlt hs hz1 hm
      generalize 1 + z1 = z2 at hw1 hw2
      by_cases h150 : m ≤ 150
      · have hd : decide ((150 : Int) < (m : Int)) = false := by rw [decide_eq_false_iff_not]; omega
        have H150 := Lib.hid h150
        clear h150
        go_wp2
        go_roundg (ls.length - (k + 1))
        case measure => have := HE.out; omega
        case rel => exact ⟨k + 1, by go_num, by rw [← HM.out], rfl, HE.out, by rw [← HM.out]; exact H150.out, HK.out.alloc _⟩
      · have hd : decide ((150 : Int) < (m : Int)) = true := by rw [decide_eq_true_iff]; omega
        clear h150
        go_wp2
        all_goals go_ret
        all_goals exact ⟨false, rfl, (fun h => by cases h), HK.out.alloc _⟩
    · obtain rfl : k = ls.length := by omega
      have HL : Hid (sumL ls ≤ 15000) := Lib.hid (by have h1 := HN0.out; rw [List.take_length] at h1; have h2 := sumL_le ls; omega)
      clear hk hlt hs
      go_wp2
      all_goals go_ret
      all_goals exact ⟨true, rfl, (fun _ => HL.out), HK.out⟩
end Go.Proofs.Ytbifdckmkogbgaa
