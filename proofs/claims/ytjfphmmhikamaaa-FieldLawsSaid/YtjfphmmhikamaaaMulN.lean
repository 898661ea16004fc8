/- Five parts times five parts. -/
import Derived.Test.YtjfphmmhikamaaaF5
import Derived.KernelRfl
namespace Go.Proofs.Ytjfphmmhikamaaa.F5
def at5 (n k : Nat) : Nat := if n + k < 5 then n + k else n + k - 5
def fac5 (n k : Nat) (x : Int) : Int := if n + k < 5 then x else x * 19
def acc (l f : List Int) : Nat → List Int
  | 0 => [0, 0, 0, 0, 0]
  | t + 1 => (acc l f t).set (at5 (t / 5) (t % 5)) ((acc l f t).getD (at5 (t / 5) (t % 5)) 0 + fac5 (t / 5) (t % 5) (l.getD (t / 5) 0) * f.getD (t % 5) 0)
theorem acc_len (l f : List Int) (t : Nat) : (acc l f t).length = 5 := by
  induction t with
  | zero => rfl
  | succ t ih => rw [acc, List.length_set, ih]
theorem fac_bound {n k : Nat} {x : Int} (hx : 0 ≤ x ∧ x < 2251799813947392) : 0 ≤ fac5 n k x ∧ fac5 n k x < 72057594037927936 := by
  unfold fac5
  split <;> omega
theorem prod_b {x y : Int} (hx : 0 ≤ x ∧ x < 72057594037927936) (hy : 0 ≤ y ∧ y < 4503599627370496) : 0 ≤ x * y ∧ x * y ≤ 324518553658426726783156020576256 := by
  refine ⟨Int.mul_nonneg hx.1 hy.1, ?_⟩
  have h1 : x * y ≤ 72057594037927936 * y := Int.mul_le_mul_of_nonneg_right (by omega) hy.1
  omega
theorem ok_get {l : List Int} (h : Ok l) (n : Nat) : 0 ≤ l.getD n 0 ∧ l.getD n 0 < 2251799813947392 := by
  rw [List.getD_eq_getElem?_getD]
  by_cases hn : n < l.length
  · rw [List.getElem?_eq_getElem hn]
    exact h.2 _ (List.getElem_mem _)
  · rw [List.getElem?_eq_none (by omega)]
    exact ⟨by decide, by decide⟩
theorem step_bound {l f : List Int} (hl : Ok l) (hf : Ok f) (n k : Nat) : 0 ≤ fac5 n k (l.getD n 0) * f.getD k 0 ∧ fac5 n k (l.getD n 0) * f.getD k 0 ≤ 324518553658426726783156020576256 :=
  prod_b (fac_bound (ok_get hl n)) (by have := ok_get hf k; omega)
theorem acc_bound {l f : List Int} (hl : Ok l) (hf : Ok f) (t : Nat) : ∀ v, v ∈ acc l f t → 0 ≤ v ∧ v ≤ 324518553658426726783156020576256 * t := by
  induction t with
  | zero => intro v hv; simp [acc] at hv; omega
  | succ t ih =>
    intro v hv
    rw [acc] at hv
    have hb := step_bound hl hf (t / 5) (t % 5)
    rcases List.mem_or_eq_of_mem_set hv with hv | rfl
    · have := ih v hv
      omega
    · have : 0 ≤ (acc l f t).getD (at5 (t / 5) (t % 5)) 0 ∧ (acc l f t).getD (at5 (t / 5) (t % 5)) 0 ≤ 324518553658426726783156020576256 * t := by
        rw [List.getD_eq_getElem?_getD]
        by_cases hn : at5 (t / 5) (t % 5) < (acc l f t).length
        · rw [List.getElem?_eq_getElem hn]
          exact ih _ (List.getElem_mem _)
        · rw [List.getElem?_eq_none (by omega)]
          simp
          omega
      omega
theorem acc25 (a b c d e p q r s t : Int) : acc [a, b, c, d, e] [p, q, r, s, t] 25 =
    [0 + a * p + b * 19 * t + c * 19 * s + d * 19 * r + e * 19 * q, 0 + a * q + b * p + c * 19 * t + d * 19 * s + e * 19 * r, 0 + a * r + b * q + c * p + d * 19 * t + e * 19 * s, 0 + a * s + b * r + c * q + d * p + e * 19 * t, 0 + a * t + b * s + c * r + d * q + e * p] := by
  kernel_rfl
theorem row (x p q r s t : Int) : x * val [p, q, r, s, t] = x * p + 2251799813685248 * (x * q) + 5070602400912917605986812821504 * (x * r) + 11417981541647679048466287755595961091061972992 * (x * s) + 25711008708143844408671393477458601640355247900524685364822016 * (x * t) := by
  simp only [val, Int.mul_add, Int.mul_zero, Int.mul_left_comm x, Int.add_zero]
  omega
theorem rows (a b c d e F : Int) : val [a, b, c, d, e] * F = a * F + 2251799813685248 * (b * F) + 5070602400912917605986812821504 * (c * F) + 11417981541647679048466287755595961091061972992 * (d * F) + 25711008708143844408671393477458601640355247900524685364822016 * (e * F) := by
  simp only [val, Int.add_mul, Int.mul_assoc, Int.zero_mul, Int.mul_add]
  omega
theorem m19 (x y : Int) : x * 19 * y = 19 * (x * y) := by rw [Int.mul_right_comm, Int.mul_comm]
theorem acc_val {l f : List Int} (hl : l.length = 5) (hf : f.length = 5) : val (acc l f 25) % 57896044618658097711785492504343953926634992332820282019728792003956564819949 = val l * val f % 57896044618658097711785492504343953926634992332820282019728792003956564819949 := by
  obtain ⟨a, b, c, d, e, rfl⟩ := F5.five l hl
  obtain ⟨p, q, r, s, t, rfl⟩ := F5.five f hf
  rw [acc25, rows, row, row, row, row, row]
  simp only [val, m19]
  generalize a * p = x1
  generalize a * q = x2
  generalize a * r = x3
  generalize a * s = x4
  generalize a * t = x5
  generalize b * p = y1
  generalize b * q = y2
  generalize b * r = y3
  generalize b * s = y4
  generalize b * t = y5
  generalize c * p = z1
  generalize c * q = z2
  generalize c * r = z3
  generalize c * s = z4
  generalize c * t = z5
  generalize d * p = u1
  generalize d * q = u2
  generalize d * r = u3
  generalize d * s = u4
  generalize d * t = u5
  generalize e * p = v1
  generalize e * q = v2
  generalize e * r = v3
  generalize e * s = v4
  generalize e * t = v5
  refine (Int.emod_eq_emod_iff_emod_sub_eq_zero).2 (Int.emod_eq_zero_of_dvd ⟨-(y5 + z4 + 2251799813685248 * z5 + u3 + 2251799813685248 * u4 + 5070602400912917605986812821504 * u5 + v2 + 2251799813685248 * v3 + 5070602400912917605986812821504 * v4 + 11417981541647679048466287755595961091061972992 * v5), ?_⟩)
  omega
/-- The last part's sum. -/
theorem acc_last {l f : List Int} (hl : Ok l) (hf : Ok f) : ∃ v0 v1 v2 v3 v4 : Int, acc l f 25 = [v0, v1, v2, v3, v4] ∧ (∀ v, v ∈ [v0, v1, v2, v3, v4] → 0 ≤ v ∧ v ≤ 8112963841460668169578900514406400) ∧ v4 < 162259276829213363391578010288128 := by
  obtain ⟨a, b, c, d, e, rfl, ha, hb, hc, hd, he⟩ := hl.five
  obtain ⟨p, q, r, s, t, rfl, hp, hq, hr, hs, ht⟩ := hf.five
  refine ⟨_, _, _, _, _, acc25 a b c d e p q r s t, fun v hv => ?_, ?_⟩
  · have := acc_bound hl hf 25 v (by rw [acc25]; exact hv)
    omega
  · have pb : ∀ x y : Int, (0 ≤ x ∧ x < 2251799813947392) → (0 ≤ y ∧ y < 2251799813947392) → x * y ≤ 2251799813947391 * 2251799813947391 := fun x y hx hy => Int.le_trans (Int.mul_le_mul_of_nonneg_right (by omega : x ≤ 2251799813947391) hy.1) (by omega)
    have := pb a t ha ht; have := pb b s hb hs; have := pb c r hc hr; have := pb d q hd hq; have := pb e p he hp
    omega
/-- Wides in a row. -/
def wc : List Int → List Int
  | [] => []
  | v :: vs => v / 18446744073709551616 :: v % 18446744073709551616 :: wc vs
theorem wc_get (vs : List Int) (i : Nat) (h : i < vs.length) : (wc vs)[2 * i]? = some (vs[i] / 18446744073709551616) ∧ (wc vs)[2 * i + 1]? = some (vs[i] % 18446744073709551616) := by
  induction vs generalizing i with
  | nil => simp at h
  | cons v vs ih =>
    cases i with
    | zero => exact ⟨rfl, rfl⟩
    | succ i =>
      have := ih i (by simpa using h)
      simpa [wc, Nat.mul_add] using this
theorem wc_set (vs : List Int) (i : Nat) (v : Int) : ((wc vs).set (2 * i) (v / 18446744073709551616)).set (2 * i + 1) (v % 18446744073709551616) = wc (vs.set i v) := by
  induction vs generalizing i with
  | nil => simp [wc]
  | cons x vs ih =>
    cases i with
    | zero => rfl
    | succ i =>
      have := ih i
      simpa [wc, Nat.mul_add] using this
theorem wc_len (vs : List Int) : (wc vs).length = 2 * vs.length := by
  induction vs with
  | nil => rfl
  | cons v vs ih => simp [wc, ih]; omega
end Go.Proofs.Ytjfphmmhikamaaa.F5
