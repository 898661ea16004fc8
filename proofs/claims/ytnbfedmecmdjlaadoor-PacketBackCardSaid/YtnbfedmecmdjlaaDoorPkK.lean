/- Package packet: a []Call as it came in, and whether the calls are few. -/
import Derived.Test.YtnbfedmecmdjlaaDoorPkI
import Derived.Test.YtnbfedmecmdjlaaDoorPkJ
namespace Go.Proofs.YtnbfedmecmdjlaaDoor
open Go Go.RowKit
structure Cq where
  kind : Int
  data : List UInt8
  draw : ByteArray
  num : Int
structure CallsQ (w : World) (v : Value) (ls : List Cq) : Prop where
  sh : ∃ ao cap, v = .slice ao ls.length cap ∧ ls.length ≤ cap ∧ cap ≤ 9223372036854775807 ∧ ∀ (i : Nat) (x : Cq), ls[i]? = some x → ∃ b o dv, ao = some ⟨b, o, none⟩ ∧ w.cell? ⟨b, o + i * 4, none⟩ = some (.int .i64 x.kind) ∧ w.cell? ⟨b, o + i * 4 + 1, none⟩ = some dv ∧ Rd w dv (bys x.data) ∧
    w.cell? ⟨b, o + i * 4 + 2, none⟩ = some (.string x.draw) ∧ w.cell? ⟨b, o + i * 4 + 3, none⟩ = some (.int .i64 x.num) ∧ x.data.length ≤ 140737488351232 ∧ x.draw.size ≤ 140737488351232 ∧ -9223372036854775808 ≤ x.num ∧ x.num ≤ 9223372036854775807
theorem CallsQ.keep0 {w w1 : World} {v : Value} {ls : List Cq} (h : CallsQ w v ls) (hk : Kp0 w w1) : CallsQ w1 v ls := by
  obtain ⟨ao, cap, h1, h2, h3, h4⟩ := h.sh
  refine ⟨ao, cap, h1, h2, h3, fun i x hx => ?_⟩
  obtain ⟨b, o, dv, q1, q2, q3, q4, q5, q6, q7⟩ := h4 i x hx
  exact ⟨b, o, dv, q1, hk.cell q2 (fun h => h), hk.cell q3 (fun h => h), q4.keep0 hk, hk.cell q5 (fun h => h), hk.cell q6 (fun h => h), q7⟩
def sumQ (ls : List Cq) : Nat := (ls.map (fun x => 1 + (x.data.length + x.draw.size) / 50)).sum
theorem sumQ_take {ls : List Cq} {k : Nat} {x : Cq} (h : ls[k]? = some x) : sumQ (ls.take (k + 1)) = sumQ (ls.take k) + (1 + (x.data.length + x.draw.size) / 50) := by
  unfold sumQ
  rw [List.take_add_one, h]
  simp
theorem sumQ_len (ls : List Cq) : ls.length ≤ sumQ ls := by
  induction ls with
  | nil => simp
  | cons x l ih =>
    unfold sumQ at *
    simp only [List.map_cons, List.sum_cons, List.length_cons]
    omega
theorem sumQ_one {ls : List Cq} {k : Nat} {x : Cq} (h : ls[k]? = some x) : 1 + (x.data.length + x.draw.size) / 50 ≤ sumQ ls := by
  induction ls generalizing k with
  | nil => cases h
  | cons y l ih =>
    unfold sumQ at *
    simp only [List.map_cons, List.sum_cons]
    cases k with
    | zero => cases h; omega
    | succ k => have := ih h; omega
set_option maxRecDepth 20000 in
set_option maxHeartbeats 4000000 in
theorem plight_any (v : Value) (ls : List Cq) (w : World) (h : CallsQ w v ls) :
    Calls Tryd.prog 9 #[v] w fun e w' => ∃ r, e = .returned (.bool r) ∧ (r = true → sumQ ls ≤ 100) ∧ Kp0 w w' := by
  have H := Lib.hid h
  obtain ⟨ao, cap, rfl, hc1, hc2, hc3⟩ := h.sh
  have HC := Lib.hid hc3
  have hrl : (ls.length : Int) ≤ 9223372036854775807 := by omega
  clear h hc3 hc2
  go_enter Tryd.func9, Tryd.ntmps9
  go_wp2
  go_loopg [3, 8] ls.length (fun gg n i wr => ∃ k : Nat, i = .int .i64 k ∧ n = .int .i64 ((sumQ (ls.take k) : Nat) : Int) ∧ gg = ls.length - k ∧ k ≤ ls.length ∧ sumQ (ls.take k) ≤ 100 ∧ Kp0 w wr)
  case atStart => exact ⟨0, rfl, rfl, rfl, Nat.zero_le _, by simp [sumQ], Kp.refl _ _⟩
  case round =>
    obtain ⟨k, rfl, rfl, rfl, hk, hs, hkp⟩ := hrel
    have HK := Lib.hid hkp
    obtain ⟨n0, hn0⟩ : ∃ n0, n0 = sumQ (ls.take k) := ⟨_, rfl⟩
    rw [← hn0] at hs ⊢
    have HN0 := Lib.hid hn0
    clear hkp hn0
    by_cases hlt : k < ls.length
    · have hlti : (k : Int) < ls.length := by omega
      obtain ⟨x, hx⟩ : ∃ x, ls[k]? = some x := ⟨_, List.getElem?_eq_getElem hlt⟩
      obtain ⟨b, o, dv, rfl, q1, q2, q3, q4, q5, q6, q7, -⟩ := HC.out k x hx
      have c1 := HK.out.cell q1 (fun h => h)
      have c2 := HK.out.cell q2 (fun h => h)
      have c3 := HK.out.cell q4 (fun h => h)
      have c4 := HK.out.cell q5 (fun h => h)
      obtain ⟨av, cv, rfl, _, _, _⟩ := q3.shapeB
      obtain ⟨m, hm⟩ : ∃ m, m = n0 + (1 + (x.data.length + x.draw.size) / 50) := ⟨_, rfl⟩
      have HM : Hid (m = sumQ (ls.take (k + 1))) := Lib.hid (by rw [sumQ_take hx, hm, HN0.out])
      have HE := Lib.hid hlt
      have hz0 : x.data.length + x.draw.size ≤ 281474976702464 := by omega
      clear q1 q2 q3 q4 q5 hx hlt
      go_wp2
      · go_ret
        exact ⟨false, rfl, (fun h => by cases h), HK.out.alloc _⟩
      · have hme : (n0 : Int) + (1 + ((x.data.length : Int) + (x.draw.size : Int)) / 50) = (m : Int) := by omega
        have h100 : m ≤ 100 := by omega
        rw [hme]
        go_roundg (ls.length - (k + 1))
        case measure => have := HE.out; omega
        case rel => exact ⟨k + 1, by go_num, by rw [← HM.out], rfl, HE.out, by rw [← HM.out]; exact h100, HK.out.alloc _⟩
    · obtain rfl : k = ls.length := by omega
      have HL : Hid (sumQ ls ≤ 100) := Lib.hid (by have h1 := HN0.out; rw [List.take_length] at h1; omega)
      clear hk hlt hs
      go_wp2
      go_ret
      exact ⟨true, rfl, fun _ => HL.out, HK.out⟩
end Go.Proofs.YtnbfedmecmdjlaaDoor
