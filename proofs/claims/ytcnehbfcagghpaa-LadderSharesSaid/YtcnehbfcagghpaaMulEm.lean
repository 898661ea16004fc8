/- Five parts times five parts. Package field: products. -/
import Derived.Test.YtcnehbfcagghpaaF5
import Derived.KernelRfl
import Derived.Test.YtcnehbfcagghpaaMul5m
namespace Go.Proofs.Ytcnehbfcagghpaa.F5
def at5 (n k : Nat) : Nat := if n + k < 5 then n + k else n + k - 5
def fac5 (n k : Nat) (x : Int) : Int := if n + k < 5 then x else x * 19
def acc (l f : List Int) : Nat → List Int
  | 0 => [0, 0, 0, 0, 0]
  | t + 1 => (acc l f t).set (at5 (t / 5) (t % 5)) ((acc l f t).getD (at5 (t / 5) (t % 5)) 0 + fac5 (t / 5) (t % 5) (l.getD (t / 5) 0) * f.getD (t % 5) 0)
theorem acc_len (l f : List Int) (t : Nat) : (acc l f t).length = 5 := by
  induction t with
  | zero => rfl
  | succ t ih => rw [acc, List.length_set, ih]
theorem fac_bound {n k : Nat} {x : Int} (hx : 0 ≤ x ∧ x < 2251799813947392) : 0 ≤ fac5 n k x ∧ fac5 n k x < 72057594037927936 := by
  unfold fac5
  split <;> omega
theorem prod_b {x y : Int} (hx : 0 ≤ x ∧ x < 72057594037927936) (hy : 0 ≤ y ∧ y < 4503599627370496) : 0 ≤ x * y ∧ x * y ≤ 324518553658426726783156020576256 := by
  refine ⟨Int.mul_nonneg hx.1 hy.1, ?_⟩
  have h1 : x * y ≤ 72057594037927936 * y := Int.mul_le_mul_of_nonneg_right (by omega) hy.1
  omega
theorem ok_get {l : List Int} (h : Ok l) (n : Nat) : 0 ≤ l.getD n 0 ∧ l.getD n 0 < 2251799813947392 := by
  rw [List.getD_eq_getElem?_getD]
  by_cases hn : n < l.length
  · rw [List.getElem?_eq_getElem hn]
    exact h.2 _ (List.getElem_mem _)
  · rw [List.getElem?_eq_none (by omega)]
    exact ⟨by decide, by decide⟩
theorem step_bound {l f : List Int} (hl : Ok l) (hf : Ok f) (n k : Nat) : 0 ≤ fac5 n k (l.getD n 0) * f.getD k 0 ∧ fac5 n k (l.getD n 0) * f.getD k 0 ≤ 324518553658426726783156020576256 :=
  prod_b (fac_bound (ok_get hl n)) (by have := ok_get hf k; omega)
theorem acc_bound {l f : List Int} (hl : Ok l) (hf : Ok f) (t : Nat) : ∀ v, v ∈ acc l f t → 0 ≤ v ∧ v ≤ 324518553658426726783156020576256 * t := by
  induction t with
  | zero => intro v hv; simp [acc] at hv; omega
  | succ t ih =>
    intro v hv
    rw [acc] at hv
    have hb := step_bound hl hf (t / 5) (t % 5)
    rcases List.mem_or_eq_of_mem_set hv with hv | rfl
    · have := ih v hv
      omega
    · have : 0 ≤ (acc l f t).getD (at5 (t / 5) (t % 5)) 0 ∧ (acc l f t).getD (at5 (t / 5) (t % 5)) 0 ≤ 324518553658426726783156020576256 * t := by
        rw [List.getD_eq_getElem?_getD]
        by_cases hn : at5 (t / 5) (t % 5) < (acc l f t).length
        · rw [List.getElem?_eq_getElem hn]
          exact ih _ (List.getElem_mem _)
        · rw [List.getElem?_eq_none (by omega)]
          simp
          omega
      omega
theorem acc25 (a b c d e p q r s t : Int) : acc [a, b, c, d, e] [p, q, r, s, t] 25 =
    [0 + a * p + b * 19 * t + c * 19 * s + d * 19 * r + e * 19 * q, 0 + a * q + b * p + c * 19 * t + d * 19 * s + e * 19 * r, 0 + a * r + b * q + c * p + d * 19 * t + e * 19 * s, 0 + a * s + b * r + c * q + d * p + e * 19 * t, 0 + a * t + b * s + c * r + d * q + e * p] := by
  kernel_rfl
theorem row (x p q r s t : Int) : x * val [p, q, r, s, t] = x * p + 2251799813685248 * (x * q) + 5070602400912917605986812821504 * (x * r) + 11417981541647679048466287755595961091061972992 * (x * s) + 25711008708143844408671393477458601640355247900524685364822016 * (x * t) := by
  simp only [val, Int.mul_add, Int.mul_zero, Int.mul_left_comm x, Int.add_zero]
  omega
theorem rows (a b c d e F : Int) : val [a, b, c, d, e] * F = a * F + 2251799813685248 * (b * F) + 5070602400912917605986812821504 * (c * F) + 11417981541647679048466287755595961091061972992 * (d * F) + 25711008708143844408671393477458601640355247900524685364822016 * (e * F) := by
  simp only [val, Int.add_mul, Int.mul_assoc, Int.zero_mul, Int.mul_add]
  omega
theorem m19 (x y : Int) : x * 19 * y = 19 * (x * y) := by rw [Int.mul_right_comm, Int.mul_comm]
theorem acc_val {l f : List Int} (hl : l.length = 5) (hf : f.length = 5) : val (acc l f 25) % 57896044618658097711785492504343953926634992332820282019728792003956564819949 = val l * val f % 57896044618658097711785492504343953926634992332820282019728792003956564819949 := by
  obtain ⟨a, b, c, d, e, rfl⟩ := F5.five l hl
  obtain ⟨p, q, r, s, t, rfl⟩ := F5.five f hf
  rw [acc25, rows, row, row, row, row, row]
  simp only [val, m19]
  generalize a * p = x1
  generalize a * q = x2
  generalize a * r = x3
  generalize a * s = x4
  generalize a * t = x5
  generalize b * p = y1
  generalize b * q = y2
  generalize b * r = y3
  generalize b * s = y4
  generalize b * t = y5
  generalize c * p = z1
  generalize c * q = z2
  generalize c * r = z3
  generalize c * s = z4
  generalize c * t = z5
  generalize d * p = u1
  generalize d * q = u2
  generalize d * r = u3
  generalize d * s = u4
  generalize d * t = u5
  generalize e * p = v1
  generalize e * q = v2
  generalize e * r = v3
  generalize e * s = v4
  generalize e * t = v5
  refine (Int.emod_eq_emod_iff_emod_sub_eq_zero).2 (Int.emod_eq_zero_of_dvd ⟨-(y5 + z4 + 2251799813685248 * z5 + u3 + 2251799813685248 * u4 + 5070602400912917605986812821504 * u5 + v2 + 2251799813685248 * v3 + 5070602400912917605986812821504 * v4 + 11417981541647679048466287755595961091061972992 * v5), ?_⟩)
  omega
/-- The last part's sum. -/
theorem acc_last {l f : List Int} (hl : Ok l) (hf : Ok f) : ∃ v0 v1 v2 v3 v4 : Int, acc l f 25 = [v0, v1, v2, v3, v4] ∧ (∀ v, v ∈ [v0, v1, v2, v3, v4] → 0 ≤ v ∧ v ≤ 8112963841460668169578900514406400) ∧ v4 < 162259276829213363391578010288128 := by
  obtain ⟨a, b, c, d, e, rfl, ha, hb, hc, hd, he⟩ := hl.five
  obtain ⟨p, q, r, s, t, rfl, hp, hq, hr, hs, ht⟩ := hf.five
  refine ⟨_, _, _, _, _, acc25 a b c d e p q r s t, fun v hv => ?_, ?_⟩
  · have := acc_bound hl hf 25 v (by rw [acc25]; exact hv)
    omega
  · have pb : ∀ x y : Int, (0 ≤ x ∧ x < 2251799813947392) → (0 ≤ y ∧ y < 2251799813947392) → x * y ≤ 2251799813947391 * 2251799813947391 := fun x y hx hy => Int.le_trans (Int.mul_le_mul_of_nonneg_right (by omega : x ≤ 2251799813947391) hy.1) (by omega)
    have := pb a t ha ht; have := pb b s hb hs; have := pb c r hc hr; have := pb d q hd hq; have := pb e p he hp
    omega
/-- Wides in a row. -/
def wc : List Int → List Int
  | [] => []
  | v :: vs => v / 18446744073709551616 :: v % 18446744073709551616 :: wc vs
theorem wc_get (vs : List Int) (i : Nat) (h : i < vs.length) : (wc vs)[2 * i]? = some (vs[i] / 18446744073709551616) ∧ (wc vs)[2 * i + 1]? = some (vs[i] % 18446744073709551616) := by
  induction vs generalizing i with
  | nil => simp at h
  | cons v vs ih =>
    cases i with
    | zero => exact ⟨rfl, rfl⟩
    | succ i =>
      have := ih i (by simpa using h)
      simpa [wc, Nat.mul_add] using this
theorem wc_set (vs : List Int) (i : Nat) (v : Int) : ((wc vs).set (2 * i) (v / 18446744073709551616)).set (2 * i + 1) (v % 18446744073709551616) = wc (vs.set i v) := by
  induction vs generalizing i with
  | nil => simp [wc]
  | cons x vs ih =>
    cases i with
    | zero => rfl
    | succ i =>
      have := ih i
      simpa [wc, Nat.mul_add] using this
theorem wc_len (vs : List Int) : (wc vs).length = 2 * vs.length := by
  induction vs with
  | nil => rfl
  | cons v vs ih => simp [wc, ih]; omega
end Go.Proofs.Ytcnehbfcagghpaa.F5
namespace Go.Proofs.Ytcnehbfcagghpaa
open Go Go.RowKit
def MulS (w : World) (l f cs : List Int) (wr : World) : Prop := ArK .u64 wr w.heap.size 40 l ∧ ArK .u64 wr (w.heap.size + 1) 40 f ∧ ArK .u64 wr (w.heap.size + 1 + 1) 40 z5 ∧ ArK .u64 wr (w.heap.size + 1 + 1 + 1) 74 cs ∧ Kp0 w wr
theorem MulS.start (w : World) (l f : List Int) : MulS w l f [0, 0, 0, 0, 0, 0, 0, 0, 0, 0] ((((w.alloc (.cells (kis .u64 l).toArray 40)).alloc (.cells (kis .u64 f).toArray 40)).alloc (.cells (kis .u64 z5).toArray 40)).alloc (.cells (kis .u64 [0, 0, 0, 0, 0, 0, 0, 0, 0, 0]).toArray 74)) :=
  ⟨(ark0 w _ l).kp0 ((((Kp.refl _ _).alloc _).alloc _).alloc _), (ark1 w _ _ f).kp0 (((Kp.refl _ _).alloc _).alloc _), (ark2 w _ _ _ z5).kp0 ((Kp.refl _ _).alloc _), ark3 w _ _ _ _ _, ((((Kp.refl _ w).alloc _).alloc _).alloc _).alloc _⟩
theorem MulS.set {w wr : World} {l f cs : List Int} (h : MulS w l f cs wr) (i : Nat) (x : Int) : MulS w l f (cs.set i x) (wr.setCell ⟨w.heap.size + 1 + 1 + 1, i, none⟩ (.int .u64 x)) := by
  obtain ⟨h1, h2, h3, h4, h5⟩ := h
  exact ⟨h1.other (by omega) _, h2.other (by omega) _, h3.other (by omega) _, h4.set i x, h5.at (by omega) _⟩
theorem MulS.drew {w wr : World} {l f cs : List Int} (h : MulS w l f cs wr) : MulS w l f cs wr.drew := ⟨h.1, h.2.1, h.2.2.1, h.2.2.2.1, h.2.2.2.2.drew⟩
theorem MulS.kp0 {w wr wx : World} {l f cs : List Int} (h : MulS w l f cs wr) (hk : Kp0 wr wx) : MulS w l f cs wx := ⟨h.1.kp0 hk, h.2.1.kp0 hk, h.2.2.1.kp0 hk, h.2.2.2.1.kp0 hk, h.2.2.2.2.tr hk⟩
/-- A wide in the row. -/
theorem wide_range {w : World} {g : Nat} {vs : List Int} (h : ArK .u64 w g 74 (F5.wc vs)) {i : Nat} {v : Int} (hv : vs[i]? = some v) : w.rangeAt g (i * 2) (kis .u64 [v / 18446744073709551616, v % 18446744073709551616]) := by
  obtain ⟨h1, rfl⟩ := List.getElem?_eq_some_iff.1 hv
  obtain ⟨h2, h3⟩ := F5.wc_get vs i h1
  intro j u hu
  rw [Nat.mul_comm]
  match j, hu with
  | 0, hu => rw [Nat.add_zero, h.cell' _ h2]; simpa [kis] using hu
  | 1, hu => rw [h.cell' _ h3]; simpa [kis] using hu
theorem wide_there {w : World} {g : Nat} {vs : List Int} (h : ArK .u64 w g 74 (F5.wc vs)) {i : Nat} {v : Int} (hv : vs[i]? = some v) : w.there g (i * 2) 2 := by
  obtain ⟨h1, rfl⟩ := List.getElem?_eq_some_iff.1 hv
  obtain ⟨h2, h3⟩ := F5.wc_get vs i h1
  intro j hj
  refine ⟨?_, h.frozen _⟩
  rw [Nat.mul_comm]
  match j, hj with
  | 0, _ => rw [Nat.add_zero, h.cell' _ h2]; rfl
  | 1, _ => rw [h.cell' _ h3]; rfl
theorem MulS.setW {w wr : World} {l f vs : List Int} (h : MulS w l f (F5.wc vs) wr) (i : Nat) (v : Int) : MulS w l f (F5.wc (vs.set i v)) (wr.setCells (w.heap.size + 1 + 1 + 1) (i * 2) (kis .u64 [v / 18446744073709551616, v % 18446744073709551616])) := by
  have := (h.set (2 * i) (v / 18446744073709551616)).set (2 * i + 1) (v % 18446744073709551616)
  rw [F5.wc_set] at this
  rw [Nat.mul_comm i 2]
  exact this
theorem run_load_mid {P : Program} {op : Oper} {a : Act} {w : World} (ty : TypeId) (x : Operand) (ho : op.op = .load ty x)
    (g o : Nat) (cs : List Value) (hx : a.eval x = .pointer (some ⟨g, o, none⟩)) (hA : w.rangeAt g o cs) (d : TypeDesc)
    (hu : P.underlying ty = some d) (hd : d.isRow = true) (hi : (P.info? ty).map (·.size) = some cs.length) : (execOp a.eval op).run P w = .ok (.value (.agg cs.toArray)) w := by
  unfold execOp
  simp only [ho, hx, Instr.loadAt, Instr.sureAddr, Sem.run_bind, Sem.run_pure, Result.andThen_ok, run_loadVar_mid w g o ty cs d hA hu hd hi]
theorem infoW2 (u v : Int) : (Try.prog.info? 73).map (·.size) = some (kis .u64 [u, v]).toArray.size := by kernel_rfl
/-- One product goes in. -/
theorem mul_one {l f : List Int} (hl : F5.Ok l) (hf : F5.Ok f) {n k : Nat} (hn : n < 5) (hk : k < 5) :
    ∃ (x y v : Int), l[n]? = some x ∧ f[k]? = some y ∧ (F5.acc l f (5 * n + k))[F5.at5 n k]? = some v ∧ (0 ≤ x ∧ x < 2251799813947392) ∧ (0 ≤ y ∧ y < 2251799813947392) ∧ (0 ≤ v ∧ v ≤ 8112963841460668169578900514406400) ∧ (0 ≤ F5.fac5 n k x ∧ F5.fac5 n k x < 72057594037927936) ∧ (0 ≤ F5.fac5 n k x * y ∧ F5.fac5 n k x * y ≤ 324518553658426726783156020576256) ∧ F5.acc l f (5 * n + (k + 1)) = (F5.acc l f (5 * n + k)).set (F5.at5 n k) (v + F5.fac5 n k x * y) := by
  have h1 : n < l.length := by rw [hl.1]; exact hn
  have h2 : k < f.length := by rw [hf.1]; exact hk
  have h3 : F5.at5 n k < (F5.acc l f (5 * n + k)).length := by rw [F5.acc_len]; unfold F5.at5; split <;> omega
  have e1 : l.getD n 0 = l[n] := by rw [List.getD_eq_getElem?_getD, List.getElem?_eq_getElem h1]; rfl
  have e2 : f.getD k 0 = f[k] := by rw [List.getD_eq_getElem?_getD, List.getElem?_eq_getElem h2]; rfl
  have e3 : (F5.acc l f (5 * n + k)).getD (F5.at5 n k) 0 = (F5.acc l f (5 * n + k))[F5.at5 n k] := by rw [List.getD_eq_getElem?_getD, List.getElem?_eq_getElem h3]; rfl
  have b := F5.acc_bound hl hf (5 * n + k) _ (List.getElem_mem h3)
  have p := F5.step_bound hl hf n k
  have q := F5.fac_bound (n := n) (k := k) (F5.ok_get hl n)
  rw [e1] at p q
  rw [e2] at p
  refine ⟨_, _, _, List.getElem?_eq_getElem h1, List.getElem?_eq_getElem h2, List.getElem?_eq_getElem h3, hl.2 _ (List.getElem_mem _), hf.2 _ (List.getElem_mem _), by omega, q, p, ?_⟩
  rw [← Nat.add_assoc, F5.acc, show (5 * n + k) / 5 = n by omega, show (5 * n + k) % 5 = k by omega, e1, e2, e3]
theorem mul_split {v0 v1 v2 v3 v4 : Int} (hb : ∀ v, v ∈ [v0, v1, v2, v3, v4] → 0 ≤ v ∧ v ≤ 8112963841460668169578900514406400) (h4 : v4 < 162259276829213363391578010288128) : (∀ v, v ∈ [v0, v1, v2, v3, v4] → 0 ≤ v ∧ v < 41538374868278621028243970633760768) ∧ (∀ x, x ∈ [v0 % 2251799813685248, v1 % 2251799813685248, v2 % 2251799813685248, v3 % 2251799813685248, v4 % 2251799813685248] → 0 ≤ x ∧ x < 2251799813685248) ∧ (∀ x, x ∈ [v0 / 2251799813685248, v1 / 2251799813685248, v2 / 2251799813685248, v3 / 2251799813685248] → 0 ≤ x ∧ x < 4611686018427387904) ∧ 0 ≤ v4 / 2251799813685248 ∧ v4 / 2251799813685248 < 72057594037927936 := by
  have h0 := hb v0 (by simp); have h1 := hb v1 (by simp); have h2 := hb v2 (by simp); have h3 := hb v3 (by simp); have h5 := hb v4 (by simp)
  clear hb
  refine ⟨fun x hx => ?_, fun x hx => ?_, fun x hx => ?_, by omega, by omega⟩ <;> simp only [List.mem_cons, List.not_mem_nil, or_false] at hx <;> omega
theorem mul_room {a b c d e p q r s t : Int} (hl : ∀ x, x ∈ [a, b, c, d, e] → 0 ≤ x ∧ x < 2251799813685248) (ho : ∀ x, x ∈ [p, q, r, s] → 0 ≤ x ∧ x < 4611686018427387904) (ht : 0 ≤ t ∧ t < 72057594037927936) : ∀ x, x ∈ [a + t * 19, b + p, c + q, d + r, e + s] → 0 ≤ x ∧ x < 18446744073709551616 := by
  have := hl a (by simp); have := hl b (by simp); have := hl c (by simp); have := hl d (by simp); have := hl e (by simp)
  have := ho p (by simp); have := ho q (by simp); have := ho r (by simp); have := ho s (by simp)
  clear hl ho
  intro x hx
  simp only [List.mem_cons, List.not_mem_nil, or_false] at hx
  omega
theorem mul_joined (v0 v1 v2 v3 v4 : Int) : F5.val [v0 % 2251799813685248 + v4 / 2251799813685248 * 19, v1 % 2251799813685248 + v0 / 2251799813685248, v2 % 2251799813685248 + v1 / 2251799813685248, v3 % 2251799813685248 + v2 / 2251799813685248, v4 % 2251799813685248 + v3 / 2251799813685248] % 57896044618658097711785492504343953926634992332820282019728792003956564819949 = F5.val [v0, v1, v2, v3, v4] % 57896044618658097711785492504343953926634992332820282019728792003956564819949 := by
  simp only [F5.val]
  omega
theorem split_step {n : Nat} (hn : n < 5) (a b c d e : Int) (h : ∀ x, x ∈ [a, b, c, d, e] → 0 ≤ x ∧ x < 41538374868278621028243970633760768) :
    ∃ x, [a, b, c, d, e][n]? = some x ∧ (0 ≤ x ∧ x < 41538374868278621028243970633760768) ∧ (lowK n a b c d e).set n (x % 2251799813685248) = lowK (n + 1) a b c d e ∧ (overK n a b c d e).set n (x / 2251799813685248) = overK (n + 1) a b c d e := by
  match n, hn with
  | 0, _ => exact ⟨a, rfl, h a (by simp), by simp [lowK], by simp [overK]⟩
  | 1, _ => exact ⟨b, rfl, h b (by simp), by simp [lowK], by simp [overK]⟩
  | 2, _ => exact ⟨c, rfl, h c (by simp), by simp [lowK], by simp [overK]⟩
  | 3, _ => exact ⟨d, rfl, h d (by simp), by simp [lowK], by simp [overK]⟩
  | 4, _ => exact ⟨e, rfl, h e (by simp), by simp [lowK], by simp [overK]⟩
/-- Where the sums' bits and what is over go. -/
def LowQ (g : Nat) (wr : World) (lo ov : List Int) (wx : World) : Prop := ArK .u64 wx g 38 lo ∧ ArK .u64 wx (g + 1) 38 ov ∧ Kp0 wr wx ∧ wr.heap.size = g
theorem LowQ.start (wr : World) : LowQ wr.heap.size wr z5 z5 ((wr.alloc (.cells (kis .u64 z5).toArray 38)).alloc (.cells (kis .u64 z5).toArray 38)) :=
  ⟨(ark0 wr _ _).kp0 ((Kp.refl _ _).alloc _), ark1 wr _ _ _, ((Kp.refl _ wr).alloc _).alloc _, rfl⟩
theorem LowQ.set {g : Nat} {wr wx : World} {lo ov : List Int} (h : LowQ g wr lo ov wx) (i : Nat) (x : Int) : LowQ g wr (lo.set i x) ov (wx.setCell ⟨g, i, none⟩ (.int .u64 x)) := by
  obtain ⟨h1, h2, h3, h4⟩ := h
  exact ⟨h1.set i x, h2.other (by omega) _, h3.at (by omega) _, h4⟩
theorem LowQ.set2 {g : Nat} {wr wx : World} {lo ov : List Int} (h : LowQ g wr lo ov wx) (i : Nat) (x : Int) : LowQ g wr lo (ov.set i x) (wx.setCell ⟨g + 1, i, none⟩ (.int .u64 x)) := by
  obtain ⟨h1, h2, h3, h4⟩ := h
  exact ⟨h1.other (by omega) _, h2.set i x, h3.at (by omega) _, h4⟩
theorem LowQ.kp0 {g : Nat} {wr wx wy : World} {lo ov : List Int} (h : LowQ g wr lo ov wx) (hk : Kp0 wx wy) : LowQ g wr lo ov wy := ⟨h.1.kp0 hk, h.2.1.kp0 hk, h.2.2.1.tr hk, h.2.2.2⟩
set_option maxRecDepth 20000 in
set_option maxHeartbeats 8000000 in
theorem mul5_any (l f : List Int) (w : World) (hl : F5.Ok l) (hf : F5.Ok f) :
    Calls Try.prog 31 #[.agg (kis .u64 l).toArray, .agg (kis .u64 f).toArray] w fun x w' => (∃ m, F5.Ok m ∧ F5.val m % 57896044618658097711785492504343953926634992332820282019728792003956564819949 = F5.val l * F5.val f % 57896044618658097711785492504343953926634992332820282019728792003956564819949 ∧ x = .returned (.agg (kis .u64 m).toArray)) ∧ Kp0 w w' := by
  have HS : Hid (∀ n k, n < 5 → k < 5 → _) := Lib.hid (fun n k (hn : n < 5) (hk : k < 5) => mul_one hl hf hn hk)
  obtain ⟨T, hT⟩ : ∃ T : Nat, T = 25 := ⟨_, rfl⟩
  have HV : Hid (F5.val (F5.acc l f T) % 57896044618658097711785492504343953926634992332820282019728792003956564819949 = F5.val l * F5.val f % 57896044618658097711785492504343953926634992332820282019728792003956564819949) := Lib.hid (by subst hT; exact F5.acc_val hl.1 hf.1)
  have HL : Hid (∃ v0 v1 v2 v3 v4 : Int, F5.acc l f T = [v0, v1, v2, v3, v4] ∧ (∀ v, v ∈ [v0, v1, v2, v3, v4] → 0 ≤ v ∧ v ≤ 8112963841460668169578900514406400) ∧ v4 < 162259276829213363391578010288128) := Lib.hid (by subst hT; exact F5.acc_last hl hf)
  have HT := Lib.hid hT
  clear hT
  clear hl hf
  go_enter Try.func31, Try.ntmps31
  go_upto_region 2 with (fail)
  have HR0 := Lib.hid (MulS.start w l f)
  change Code.wp _ _ _ _ ((((w.alloc (.cells (kis .u64 l).toArray 40)).alloc (.cells (kis .u64 f).toArray 40)).alloc (.cells (kis .u64 z5).toArray 40)).alloc (.cells (kis .u64 [0, 0, 0, 0, 0, 0, 0, 0, 0, 0]).toArray 74))
  generalize ((((w.alloc (.cells (kis .u64 l).toArray 40)).alloc (.cells (kis .u64 f).toArray 40)).alloc (.cells (kis .u64 z5).toArray 40)).alloc (.cells (kis .u64 [0, 0, 0, 0, 0, 0, 0, 0, 0, 0]).toArray 74)) = w1 at HR0
  go_wp2
  go_loopg [13] 5 (fun g i wr => ∃ (n : Nat), i = .int .i64 n ∧ n ≤ 5 ∧ g = 5 - n ∧ MulS w l f (F5.wc (F5.acc l f (5 * n))) wr)
  case atStart => exact ⟨0, rfl, by omega, rfl, by rw [show F5.wc (F5.acc l f (5 * 0)) = [0, 0, 0, 0, 0, 0, 0, 0, 0, 0] from by simp [F5.acc, F5.wc]]; exact HR0.out⟩
  case round =>
    obtain ⟨n, rfl, hn, rfl, hr⟩ := hrel
    have HR1 := Lib.hid hr
    clear hr
    by_cases h : n < 5
    · go_wp2
      go_loopg [16] 5 (fun g i wr => ∃ (k : Nat), i = .int .i64 k ∧ k ≤ 5 ∧ g = 5 - k ∧ MulS w l f (F5.wc (F5.acc l f (5 * n + k))) wr)
      case atStart => exact ⟨0, rfl, by omega, rfl, by rw [Nat.add_zero]; exact HR1.out⟩
      case round =>
        obtain ⟨k, rfl, hk, rfl, hr⟩ := hrel
        have HR := Lib.hid hr
        clear hr
        by_cases h2 : k < 5
        · obtain ⟨x, y, v, h1, h3, h4, hx, hy, hv, hq, hp, h5⟩ := HS.out n k h h2
          obtain ⟨vs, hvs⟩ : ∃ vs, vs = F5.acc l f (5 * n + k) := ⟨_, rfl⟩
          rw [← hvs] at h4 h5 HR
          obtain ⟨q, hqq⟩ : ∃ q, q = F5.fac5 n k x := ⟨_, rfl⟩
          obtain ⟨m, hm⟩ : ∃ m, m = F5.at5 n k := ⟨_, rfl⟩
          obtain ⟨p, hpp⟩ : ∃ p, p = F5.fac5 n k x * y := ⟨_, rfl⟩
          rw [← hm] at h4 h5
          rw [← hpp] at hp h5
          rw [← hqq] at hq
          obtain ⟨b1, hb1⟩ : ∃ b : Bool, b = decide ((n : Int) < 5) := ⟨_, rfl⟩
          obtain ⟨b2, hb2⟩ : ∃ b : Bool, b = decide ((k : Int) < 5) := ⟨_, rfl⟩
          have HB1 := Lib.hid hb1
          have HB2 := Lib.hid hb2
          clear hb1 hb2
          have hm5 : m < 5 := by rw [hm]; unfold F5.at5; split <;> omega
          have HP : Hid (p = q * y) := Lib.hid (by rw [hpp, hqq])
          have H3 := Lib.hid h3
          have H4 := Lib.hid h4
          have H5 := Lib.hid h5
          have hc1 := HR.out.1.cell' n h1
          clear hpp hvs h1 h3 h4 h5
          by_cases h6 : n + k < 5
          · have hm' : m = n + k := by rw [hm, F5.at5, if_pos h6]
            have hq' : q = x := by rw [hqq, F5.fac5, if_pos h6]
            subst hq'
            have hat : (n : Int) + (k : Int) = (m : Int) := by omega
            have hm6 : (m : Int) < 5 := by omega
            clear hm hqq hm'
            go_upto_region 8 with (fail)
            go_region
            all_goals
              clear hc1
              go_upto_region 11 with (fail)
              rw [← HB1.out, ← HB2.out]
              refine wp_region_wall [11] (fun w' : World => MulS w l f (F5.wc vs) w') (.quiet 0 (.quiet 1 (.quiet 2 (.quiet 3 (.quiet 4 (.quiet 5 (.quiet 6 (.quiet 7 (.quiet 8 (.eff 9 (.quiet 10 (.wall 11 .done)))))))))))) (by kernel_rfl) (by kernel_rfl) (by kernel_rfl) (by kernel_rfl) (fun _ d _ _ _ h => by cases d <;> exact h) HR.out.drew.drew ?_
              repeat (first
                | (refine pw_quiet (v := .agg (kis .u64 [v / 18446744073709551616, v % 18446744073709551616]).toArray) rfl (by rfl) (fun wq hwq => run_load_mid 73 (.tmp 34) rfl (w.heap.size + 1 + 1 + 1) _ _ rfl (wide_range hwq.2.2.2.1 H4.out) _ Try.underlying73 rfl (infoW _ _)) rfl ?_; simp only [List.setIfInBounds_toArray, List.set_cons_zero, List.set_cons_succ])
                | (refine pw_quiet (v := .int .u64 y) rfl (by rfl) (fun wq hwq => ?_) rfl ?_; focus (have hcq := hwq.2.1.cell' k H3.out; go_simp; done))
                | (refine pw_quiet (v := ?_) rfl (by rfl) (fun wq hwq => ?_) rfl ?_; rotate_left 1; (focus (go_simp; try (with_reducible rfl); done)); simp only [List.setIfInBounds_toArray, List.set_cons_zero, List.set_cons_succ]))
              refine pw_eff rfl (by rfl) (fun K hK => ?_)
              go_simp
              refine (plus_any (v / 18446744073709551616) (v % 18446744073709551616) q y p _ HP.out (by omega) (by omega) (by omega) (by omega) (by omega)).mono ?_
              rintro e x1 ⟨rfl, hk1⟩
              rw [show v / 18446744073709551616 * 18446744073709551616 + v % 18446744073709551616 + p = v + p by omega]
              have HX := Lib.hid (HR.out.drew.drew.kp0 hk1)
              clear hk1
              simp only []
              refine hK (fun w' : World => MulS w l f (F5.wc vs) w') _ _ (fun x h => h) HX.out ?_
              clear hK K
              repeat (first
                | (refine pw_quiet (v := ?_) rfl (by rfl) (fun wq hwq => ?_) rfl ?_; rotate_left 1; (focus (go_simp; try (with_reducible rfl); done)); simp only [List.setIfInBounds_toArray, List.set_cons_zero, List.set_cons_succ]))
              refine pw_wall rfl (by rfl) (fun K hK => ?_)
              refine wp_store_mid 73 (.tmp 42) (.tmp 41) rfl (w.heap.size + 1 + 1 + 1) _ (kis .u64 [(v + p) / 18446744073709551616, (v + p) % 18446744073709551616]).toArray rfl rfl (wide_there HX.out.2.2.2.1 H4.out) (infoW2 _ _) (kis_ones _ _).all ?_
              refine hK _ _ ?_
              clear hK K
              refine pw_done ?_
              go_wp2
              have e1 := HB1.out
              have e2 := HB2.out
              subst e1 e2
              go_roundg (5 - (k + 1))
              case measure => omega
              case rel => exact ⟨k + 1, by go_num, by omega, rfl, by rw [H5.out]; exact HX.out.setW _ (v + p)⟩
          · have hm' : m + 5 = n + k := by rw [hm, F5.at5, if_neg h6]; omega
            have hq' : x * 19 = q := by rw [hqq, F5.fac5, if_neg h6]
            have hat : (n : Int) + (k : Int) - 5 = (m : Int) := by omega
            have hm6 : (m : Int) < 5 := by omega
            clear hm hqq
            go_upto_region 8 with (fail)
            go_region
            all_goals
              clear hc1
              go_upto_region 11 with (fail)
              rw [← HB1.out, ← HB2.out]
              refine wp_region_wall [11] (fun w' : World => MulS w l f (F5.wc vs) w') (.quiet 0 (.quiet 1 (.quiet 2 (.quiet 3 (.quiet 4 (.quiet 5 (.quiet 6 (.quiet 7 (.quiet 8 (.eff 9 (.quiet 10 (.wall 11 .done)))))))))))) (by kernel_rfl) (by kernel_rfl) (by kernel_rfl) (by kernel_rfl) (fun _ d _ _ _ h => by cases d <;> exact h) HR.out.drew.drew ?_
              repeat (first
                | (refine pw_quiet (v := .agg (kis .u64 [v / 18446744073709551616, v % 18446744073709551616]).toArray) rfl (by rfl) (fun wq hwq => run_load_mid 73 (.tmp 34) rfl (w.heap.size + 1 + 1 + 1) _ _ rfl (wide_range hwq.2.2.2.1 H4.out) _ Try.underlying73 rfl (infoW _ _)) rfl ?_; simp only [List.setIfInBounds_toArray, List.set_cons_zero, List.set_cons_succ])
                | (refine pw_quiet (v := .int .u64 y) rfl (by rfl) (fun wq hwq => ?_) rfl ?_; focus (have hcq := hwq.2.1.cell' k H3.out; go_simp; done))
                | (refine pw_quiet (v := ?_) rfl (by rfl) (fun wq hwq => ?_) rfl ?_; rotate_left 1; (focus (go_simp; try (with_reducible rfl); done)); simp only [List.setIfInBounds_toArray, List.set_cons_zero, List.set_cons_succ]))
              refine pw_eff rfl (by rfl) (fun K hK => ?_)
              go_simp
              refine (plus_any (v / 18446744073709551616) (v % 18446744073709551616) q y p _ HP.out (by omega) (by omega) (by omega) (by omega) (by omega)).mono ?_
              rintro e x1 ⟨rfl, hk1⟩
              rw [show v / 18446744073709551616 * 18446744073709551616 + v % 18446744073709551616 + p = v + p by omega]
              have HX := Lib.hid (HR.out.drew.drew.kp0 hk1)
              clear hk1
              simp only []
              refine hK (fun w' : World => MulS w l f (F5.wc vs) w') _ _ (fun x h => h) HX.out ?_
              clear hK K
              repeat (first
                | (refine pw_quiet (v := ?_) rfl (by rfl) (fun wq hwq => ?_) rfl ?_; rotate_left 1; (focus (go_simp; try (with_reducible rfl); done)); simp only [List.setIfInBounds_toArray, List.set_cons_zero, List.set_cons_succ]))
              refine pw_wall rfl (by rfl) (fun K hK => ?_)
              refine wp_store_mid 73 (.tmp 42) (.tmp 41) rfl (w.heap.size + 1 + 1 + 1) _ (kis .u64 [(v + p) / 18446744073709551616, (v + p) % 18446744073709551616]).toArray rfl rfl (wide_there HX.out.2.2.2.1 H4.out) (infoW2 _ _) (kis_ones _ _).all ?_
              refine hK _ _ ?_
              clear hK K
              refine pw_done ?_
              go_wp2
              have e1 := HB1.out
              have e2 := HB2.out
              subst e1 e2
              go_roundg (5 - (k + 1))
              case measure => omega
              case rel => exact ⟨k + 1, by go_num, by omega, rfl, by rw [H5.out]; exact HX.out.setW _ (v + p)⟩
        · obtain rfl : k = 5 := by omega
          rw [show 5 * n + 5 = 5 * (n + 1) by omega] at HR
          go_wp2
          go_roundg (5 - (n + 1))
          case measure => omega
          case rel => exact ⟨n + 1, by go_num, by omega, rfl, HR.out⟩
    · obtain rfl : n = 5 := by omega
      rw [show 5 * 5 = T from HT.out.symm] at HR1
      obtain ⟨v0, v1, v2, v3, v4, hv, hb, hb4⟩ := HL.out
      rw [hv] at HR1 HV
      have HB := Lib.hid (mul_split hb hb4)
      have HB2 := Lib.hid (mul_room HB.out.2.1 HB.out.2.2.1 HB.out.2.2.2)
      have HVN := Lib.hid (mul_joined v0 v1 v2 v3 v4)
      clear hv hb hb4 h HS HL HT
      go_upto_region 15 with (fail)
      obtain ⟨g, hg⟩ : ∃ g, g = wr.heap.size := ⟨_, rfl⟩
      have hlt := HR1.out.2.2.2.1.lt
      rw [← hg] at hlt
      have HG := Lib.hid hlt
      have HQ : Hid (LowQ g wr z5 z5 ((wr.alloc (.cells (kis .u64 z5).toArray 38)).alloc (.cells (kis .u64 z5).toArray 38))) := Lib.hid (by rw [hg]; exact LowQ.start wr)
      have hg1 : (wr.alloc (.cells (kis .u64 z5).toArray 38)).heap.size = g + 1 := by rw [hg]; simp
      change Code.wp _ _ _ _ ((wr.alloc (.cells (kis .u64 z5).toArray 38)).alloc (.cells (kis .u64 z5).toArray 38))
      rw [← hg]
      clear hg hg1 hlt
      generalize ((wr.alloc (.cells (kis .u64 z5).toArray 38)).alloc (.cells (kis .u64 z5).toArray 38)) = w5 at HQ
      obtain ⟨vs, hvs⟩ : ∃ vs, vs = [v0, v1, v2, v3, v4] := ⟨_, rfl⟩
      rw [← hvs] at HR1
      have HS2 : Hid (∀ n, n < 5 → _) := Lib.hid (fun n (hn : n < 5) => split_step hn v0 v1 v2 v3 v4 HB.out.1)
      rw [← hvs] at HS2
      have HVS := Lib.hid hvs
      clear hvs
      go_wp2
      go_loopg [45] 5 (fun gg i wx => ∃ (n : Nat), i = .int .i64 n ∧ n ≤ 5 ∧ gg = 5 - n ∧ LowQ g wr (lowK n v0 v1 v2 v3 v4) (overK n v0 v1 v2 v3 v4) wx)
      case atStart => exact ⟨0, rfl, by omega, rfl, HQ.out⟩
      case round =>
        obtain ⟨n, rfl, hn, rfl, hr⟩ := hrel
        have HR := Lib.hid hr
        clear hr
        by_cases h : n < 5
        · obtain ⟨x, h1, hx, h2, h3⟩ := HS2.out n h
          have HM := Lib.hid (HR1.out.kp0 HR.out.2.2.1)
          have H1 := Lib.hid h1
          have H2 := Lib.hid h2
          have H3 := Lib.hid h3
          clear h1 h2 h3
          go_wp2_with (first
            | (refine wpList_load_mid rfl 73 (.tmp 52) rfl (w.heap.size + 1 + 1 + 1) _ rfl (kis .u64 [x / 18446744073709551616, x % 18446744073709551616]) _ (wide_range HM.out.2.2.2.1 H1.out) Try.underlying73 rfl (infoW _ _) ?_)
            | (go_at_call 43
               refine (split_any (x / 18446744073709551616) (x % 18446744073709551616) _ (by omega) (by omega)).mono ?_
               rintro e x1 ⟨rfl, hk1⟩
               rw [show x % 18446744073709551616 % 2251799813685248 = x % 2251799813685248 by omega, show x / 18446744073709551616 * 8192 + x % 18446744073709551616 / 2251799813685248 = x / 2251799813685248 by omega]
               have HX := Lib.hid (HR.out.kp0 hk1)
               clear hk1
               have hl1 : n < (lowK n v0 v1 v2 v3 v4).length := h
               have hl2 : n < (overK n v0 v1 v2 v3 v4).length := h
               have hf1 := HX.out.1.frozen n
               have hf2 := HX.out.2.1.frozen n
               have hc2 := HX.out.1.cell n hl1
               have hc3 := HX.out.2.1.cell n hl2))
          go_roundg (5 - (n + 1))
          case measure => omega
          case rel => exact ⟨n + 1, by go_num, by omega, rfl, H2.out ▸ H3.out ▸ (HX.out.set n _).set2 n _⟩
        · obtain rfl : n = 5 := by omega
          have HE : Hid (lowK 5 v0 v1 v2 v3 v4 = [v0 % 2251799813685248, v1 % 2251799813685248, v2 % 2251799813685248, v3 % 2251799813685248, v4 % 2251799813685248] ∧ overK 5 v0 v1 v2 v3 v4 = [v0 / 2251799813685248, v1 / 2251799813685248, v2 / 2251799813685248, v3 / 2251799813685248, v4 / 2251799813685248]) := Lib.hid ⟨rfl, rfl⟩
          rw [HE.out.1, HE.out.2] at HR
          have HM := Lib.hid (HR1.out.kp0 HR.out.2.2.1)
          go_wp2_with (first
            | (refine wl_load_blk rfl 38 (.tmp 10) rfl g _ _ rfl HR.out.1 _ Try.underlying38 rfl (infoP _ rfl) ?_)
            | (refine wl_load_blk rfl 38 (.tmp 11) rfl (g + 1) _ _ rfl HR.out.2.1 _ Try.underlying38 rfl (infoP _ rfl) ?_)
            | (go_at_call 44
               refine (joined_any _ _ _ _ _ _ _ _ _ _ _ HB.out.2.1 HB.out.2.2.1 HB.out.2.2.2).mono ?_
               rintro e x1 ⟨rfl, hk1⟩
               have HX := Lib.hid (HM.out.kp0 hk1)
               clear hk1)
            | (go_at_call 45
               refine (carried_ok5 [v0 % 2251799813685248 + v4 / 2251799813685248 * 19, v1 % 2251799813685248 + v0 / 2251799813685248, v2 % 2251799813685248 + v1 / 2251799813685248, v3 % 2251799813685248 + v2 / 2251799813685248, v4 % 2251799813685248 + v3 / 2251799813685248] _ rfl HB2.out).mono ?_
               rintro e x2 ⟨rfl, hk2⟩
               have HY := Lib.hid (HX.out.kp0 hk2)
               clear hk2)
            | (refine wl_store_blk rfl 40 (.tmp 4) (.tmp 63) rfl (w.heap.size + 1 + 1) _ _ (kis .u64 (F5.carried [v0 % 2251799813685248 + v4 / 2251799813685248 * 19, v1 % 2251799813685248 + v0 / 2251799813685248, v2 % 2251799813685248 + v1 / 2251799813685248, v3 % 2251799813685248 + v2 / 2251799813685248, v4 % 2251799813685248 + v3 / 2251799813685248])) rfl rfl HY.out.2.2.1 (infoE _ rfl) rfl (kis_ones _ _) ?_
               intro w7 hA7 hK7
               have HA7 := Lib.hid hA7
               have HK7 := Lib.hid hK7
               clear hA7 hK7))
          refine ret_blk 4 40 40 (w.heap.size + 1 + 1) (kis .u64 (F5.carried [v0 % 2251799813685248 + v4 / 2251799813685248 * 19, v1 % 2251799813685248 + v0 / 2251799813685248, v2 % 2251799813685248 + v1 / 2251799813685248, v3 % 2251799813685248 + v2 / 2251799813685248, v4 % 2251799813685248 + v3 / 2251799813685248])) _ rfl rfl HA7.out Try.underlying40 rfl (infoE _ rfl) rfl ?_
          refine ⟨⟨_, F5.carried_ok [v0 % 2251799813685248 + v4 / 2251799813685248 * 19, v1 % 2251799813685248 + v0 / 2251799813685248, v2 % 2251799813685248 + v1 / 2251799813685248, v3 % 2251799813685248 + v2 / 2251799813685248, v4 % 2251799813685248 + v3 / 2251799813685248] rfl HB2.out, ?_, rfl⟩, HY.out.2.2.2.2.trans HK7.out (fun _ _ h => h) (fun i hi e => by omega)⟩
          rw [F5.carried_val _ rfl, HVN.out, HV.out]
end Go.Proofs.Ytcnehbfcagghpaa
