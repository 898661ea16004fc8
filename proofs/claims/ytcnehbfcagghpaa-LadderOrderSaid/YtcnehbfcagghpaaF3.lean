/- Digits of 16 bits, and what is carried. -/
namespace Go.Proofs.Ytcnehbfcagghpaa.F3
/-- The number that digits of 16 bits are. -/
def val : List Int → Int
  | [] => 0
  | d :: ds => d + 65536 * val ds
/-- Digits and what is carried, made digits below 65536, and what is carried out. -/
def carry : List Int → Int → List Int × Int
  | [], c => ([], c)
  | d :: ds, c => ((d + c) % 65536 :: (carry ds ((d + c) / 65536)).1, (carry ds ((d + c) / 65536)).2)
theorem val_append (a b : List Int) : val (a ++ b) = val a + 65536 ^ a.length * val b := by
  induction a with
  | nil => simp [val]
  | cons x t ih => simp only [List.cons_append, val, ih, List.length_cons, Int.pow_succ]; rw [Int.mul_add, Int.add_assoc, ← Int.mul_assoc, Int.mul_comm (65536 ^ t.length)]
theorem carry_len (ds : List Int) (c : Int) : (carry ds c).1.length = ds.length := by
  induction ds generalizing c with
  | nil => rfl
  | cons d t ih => simp [carry, ih]
theorem carry_append (a : List Int) (d c : Int) : carry (a ++ [d]) c = ((carry a c).1 ++ [(d + (carry a c).2) % 65536], (d + (carry a c).2) / 65536) := by
  induction a generalizing c with
  | nil => simp [carry]
  | cons x t ih => simp [carry, ih]
theorem carry_val (ds : List Int) (c : Int) : val (carry ds c).1 + 65536 ^ ds.length * (carry ds c).2 = val ds + c := by
  induction ds generalizing c with
  | nil => simp [carry, val]
  | cons d t ih =>
    have := ih ((d + c) / 65536)
    simp only [carry, val, List.length_cons, Int.pow_succ]
    rw [Int.mul_comm (65536 ^ t.length) 65536, Int.mul_assoc, Int.add_assoc, ← Int.mul_add, this]
    have := Int.emod_add_mul_ediv (d + c) 65536
    omega
/-- Digits are in their range. -/
def Dig (ds : List Int) : Prop := ∀ d, d ∈ ds → 0 ≤ d ∧ d < 65536
theorem carry_dig (ds : List Int) (c : Int) : Dig (carry ds c).1 := by
  induction ds generalizing c with
  | nil => intro d h; simp [carry] at h
  | cons x t ih =>
    intro d h
    rw [carry, List.mem_cons] at h
    rcases h with rfl | h
    · omega
    · exact ih _ d h
theorem carry_bound (B : Int) (ds : List Int) (c : Int) (h : ∀ d, d ∈ ds → -65535 * B ≤ d ∧ d ≤ 65535 * B) (hc : -B - 1 ≤ c ∧ c ≤ B + 1) : -B - 1 ≤ (carry ds c).2 ∧ (carry ds c).2 ≤ B + 1 := by
  induction ds generalizing c with
  | nil => exact hc
  | cons x t ih =>
    have hx := h x (by simp)
    exact ih _ (fun d hd => h d (by simp [hd])) ⟨by omega, by omega⟩
theorem carry_same (ds : List Int) (h : Dig ds) : carry ds 0 = (ds, 0) := by
  induction ds with
  | nil => rfl
  | cons x t ih =>
    have hx := h x (by simp)
    have ht := ih (fun d hd => h d (by simp [hd]))
    rw [carry, Int.add_zero, Int.emod_eq_of_lt hx.1 hx.2, Int.ediv_eq_zero_of_lt hx.1 hx.2, ht]
theorem val_bound (ds : List Int) (h : Dig ds) : 0 ≤ val ds ∧ val ds < 65536 ^ ds.length := by
  induction ds with
  | nil => simp [val]
  | cons x t ih =>
    have hx := h x (by simp)
    have ht := ih (fun d hd => h d (by simp [hd]))
    simp only [val, List.length_cons, Int.pow_succ]
    omega
theorem dig_ext (a b : List Int) (ha : Dig a) (hb : Dig b) (hl : a.length = b.length) (h : val a = val b) : a = b := by
  induction a generalizing b with
  | nil => exact (List.eq_nil_of_length_eq_zero hl.symm).symm
  | cons x t ih =>
    cases b with
    | nil => simp at hl
    | cons y s =>
      have hx := ha x (by simp)
      have hy := hb y (by simp)
      simp only [val] at h
      have e1 : x = y := by omega
      have e2 : val t = val s := by omega
      rw [e1, ih s (fun d hd => ha d (by simp [hd])) (fun d hd => hb d (by simp [hd])) (by simpa using hl) e2]
/-- The digits of a number. -/
def digs : Nat → Int → List Int
  | 0, _ => []
  | k + 1, n => n % 65536 :: digs k (n / 65536)
theorem digs_len (k : Nat) (n : Int) : (digs k n).length = k := by
  induction k generalizing n with
  | zero => rfl
  | succ k ih => simp [digs, ih]
theorem digs_dig (k : Nat) (n : Int) : Dig (digs k n) := by
  induction k generalizing n with
  | zero => intro d h; simp [digs] at h
  | succ k ih =>
    intro d h
    rw [digs, List.mem_cons] at h
    rcases h with rfl | h
    · omega
    · exact ih _ d h
theorem digs_val (k : Nat) (n : Int) : val (digs k n) = n % 65536 ^ k := by
  induction k generalizing n with
  | zero => simp [digs, val, Int.emod_one]
  | succ k ih =>
    simp only [digs, val, ih, Int.pow_succ]
    rw [Int.mul_comm (65536 ^ k) 65536, Int.emod_def n (65536 * 65536 ^ k), Int.emod_def (n / 65536), Int.mul_sub, Int.ediv_mul, if_neg (by omega), Int.add_zero, ← Int.mul_assoc]
    have := Int.emod_add_mul_ediv n 65536
    omega
theorem split16 (ds : List Int) (h : ds.length = 16) : ∃ a m z, ds = a :: (m ++ [z]) ∧ m.length = 14 := by
  match ds, h with
  | a :: t, h =>
    have ht : t ≠ [] := fun e => by subst e; simp at h
    exact ⟨a, t.dropLast, t.getLast ht, by rw [List.dropLast_concat_getLast], by simp at h ⊢; omega⟩
/-- One round of bringing a number below 2^255. -/
def round (ds : List Int) : List Int :=
  let r := (carry ds 0).1
  let top := r.getD 15 0 / 32768
  (r.set 15 (r.getD 15 0 - top * 32768)).set 0 (r.getD 0 0 + (19 * top + 38 * (carry ds 0).2))
theorem round_form (ds : List Int) (h : ds.length = 16) : ∃ a m z, (carry ds 0).1 = a :: (m ++ [z]) ∧ m.length = 14 ∧ round ds = (a + (19 * (z / 32768) + 38 * (carry ds 0).2)) :: (m ++ [z - z / 32768 * 32768]) := by
  obtain ⟨a, m, z, e, hm⟩ := split16 (carry ds 0).1 (by rw [carry_len, h])
  refine ⟨a, m, z, e, hm, ?_⟩
  have e15 : (a :: (m ++ [z])).getD 15 0 = z := by
    rw [List.getD_eq_getElem?_getD, List.getElem?_cons_succ, List.getElem?_append_right (by omega), hm]
    rfl
  have s15 : ∀ x, (a :: (m ++ [z])).set 15 x = a :: (m ++ [x]) := by
    intro x
    rw [List.set_cons_succ, List.set_append_right _ _ (by omega), hm]
    rfl
  unfold round
  simp only [e, e15, s15]
  rfl
theorem round_len (ds : List Int) (h : ds.length = 16) : (round ds).length = 16 := by
  obtain ⟨a, m, z, _, hm, e⟩ := round_form ds h
  rw [e]
  simp [hm]
theorem round_val (ds : List Int) (h : ds.length = 16) : val (round ds) = val ds % 57896044618658097711785492504343953926634992332820282019728792003956564819968 + 19 * (val ds / 57896044618658097711785492504343953926634992332820282019728792003956564819968) := by
  obtain ⟨a, m, z, e0, hm, e⟩ := round_form ds h
  have hv := carry_val ds 0
  have hd := carry_dig ds 0
  rw [e0] at hv hd
  have hz := hd z (by simp)
  have hl := val_bound (a :: m) (fun d h => hd d (by rw [List.mem_cons] at h ⊢; rcases h with h | h; exact .inl h; exact .inr (by simp [h])))
  rw [e]
  rw [h] at hv
  have e1 : ∀ x y, val (x :: (m ++ [y])) = x + 65536 * val m + 65536 ^ 15 * y := by
    intro x y
    rw [val, val_append, hm, val, val, Int.mul_zero, Int.add_zero, Int.mul_add, ← Int.mul_assoc, Int.add_assoc]
    rfl
  rw [e1] at hv
  rw [e1]
  rw [List.length_cons, hm, val] at hl
  generalize val ds = V at *
  generalize val m = M at *
  generalize (carry ds 0).2 = c at *
  simp only [show (65536 : Int) ^ 16 = 115792089237316195423570985008687907853269984665640564039457584007913129639936 from by decide +kernel, show (65536 : Int) ^ 15 = 1766847064778384329583297500742918515827483896875618958121606201292619776 from by decide +kernel] at *
  omega
theorem p16 : (65536 : Int) ^ 16 = 115792089237316195423570985008687907853269984665640564039457584007913129639936 := by decide +kernel
theorem round_small (ds : List Int) (h : ds.length = 16) (h0 : 0 ≤ val ds) (h1 : val ds < 57896044618658097711785492504343953926634992332820282019728792003956564819968) : round ds = digs 16 (val ds) := by
  obtain ⟨a, m, z, e0, hm, e⟩ := round_form ds h
  have hv := carry_val ds 0
  have hd := carry_dig ds 0
  have hb := val_bound _ hd
  rw [carry_len] at hb
  have hr := round_val ds h
  rw [h, p16] at hv hb
  have hz := hd z (by rw [e0]; simp)
  have ha := hd a (by rw [e0]; simp)
  have e1 : ∀ x y, val (x :: (m ++ [y])) = x + 65536 * val m + 65536 ^ 15 * y := by
    intro x y
    rw [val, val_append, hm, val, val, Int.mul_zero, Int.add_zero, Int.mul_add, ← Int.mul_assoc, Int.add_assoc]
    rfl
  have hmb := val_bound (a :: m) (fun d h => by
    rw [List.mem_cons] at h
    rcases h with h | h
    · rw [h]; exact ha
    · exact hd d (by rw [e0]; simp [h]))
  rw [List.length_cons, hm, val] at hmb
  have hvz : val (carry ds 0).1 = a + 65536 * val m + 65536 ^ 15 * z := by rw [e0, e1]
  simp only [show (65536 : Int) ^ 15 = 1766847064778384329583297500742918515827483896875618958121606201292619776 from by decide +kernel] at *
  have hz2 : z / 32768 = 0 := by omega
  have hc : (carry ds 0).2 = 0 := by omega
  rw [hc, hz2] at e
  simp only [Int.mul_zero, Int.add_zero, Int.zero_mul, Int.sub_zero] at e
  rw [← e0] at e
  rw [e]
  refine dig_ext _ _ hd (digs_dig _ _) (by rw [carry_len, digs_len, h]) ?_
  rw [digs_val, p16]
  omega
/-- A number's digits below the prime. -/
def lowL (ds : List Int) : List Int :=
  let d := round (round (round (round ds)))
  let e := (carry (d.set 0 (d.getD 0 0 + 19)) 0).1
  if e.getD 15 0 ≥ 32768 then e.set 15 (e.getD 15 0 - 32768) else d
theorem digs_set0 (n : Int) (x : Int) : val ((digs 16 n).set 0 x) = n % 65536 ^ 16 - n % 65536 + x := by
  have := digs_val 16 n
  rw [digs, val] at this
  rw [digs, List.set_cons_zero, val]
  omega
theorem low_eq (ds : List Int) (h : ds.length = 16) (h0 : 0 ≤ val ds) (h1 : val ds < 62165404551223330269422781018352605012557018849668464680057997111644937126566671941632) : lowL ds = digs 16 (val ds % 57896044618658097711785492504343953926634992332820282019728792003956564819949) := by
  have l1 := round_len _ h
  have v1 := round_val _ h
  have l2 := round_len _ l1
  have v2 := round_val _ l1
  obtain ⟨n, hn⟩ : ∃ n, n = val (round (round ds)) := ⟨_, rfl⟩
  have hn0 : 0 ≤ n := by omega
  have hn1 : n < 57896044618658097711785492504343953926634992332820282019728792003956564819968 := by omega
  have r3 : round (round (round ds)) = digs 16 n := by rw [hn]; exact round_small _ l2 (by omega) (by omega)
  have e3 : val (digs 16 n) = n := by rw [digs_val, p16]; omega
  have r4 : round (digs 16 n) = digs 16 n := by
    have := round_small (digs 16 n) (digs_len _ _) (by omega) (by omega)
    rwa [e3] at this
  have hm : val ds % 57896044618658097711785492504343953926634992332820282019728792003956564819949 = if 57896044618658097711785492504343953926634992332820282019728792003956564819949 ≤ n then n - 57896044618658097711785492504343953926634992332820282019728792003956564819949 else n := by
    split <;> omega
  unfold lowL
  simp only [r3, r4]
  obtain ⟨x, hx⟩ : ∃ x, x = (digs 16 n).set 0 ((digs 16 n).getD 0 0 + 19) := ⟨_, rfl⟩
  have hxl : x.length = 16 := by rw [hx, List.length_set, digs_len]
  have hxv : val x = n + 19 := by
    rw [hx, digs_set0, p16, show (digs 16 n).getD 0 0 = n % 65536 from rfl]
    omega
  rw [← hx]
  have hv := carry_val x 0
  have hd := carry_dig x 0
  have hb := val_bound _ hd
  rw [carry_len, hxl, p16] at hb
  rw [hxl, p16, hxv] at hv
  obtain ⟨a, m, z, e0, hml⟩ := split16 (carry x 0).1 (by rw [carry_len, hxl])
  have e15 : (a :: (m ++ [z])).getD 15 0 = z := by
    rw [List.getD_eq_getElem?_getD, List.getElem?_cons_succ, List.getElem?_append_right (by omega), hml]
    rfl
  have s15 : ∀ x, (a :: (m ++ [z])).set 15 x = a :: (m ++ [x]) := by
    intro x
    rw [List.set_cons_succ, List.set_append_right _ _ (by omega), hml]
    rfl
  have e1 : ∀ x y, val (x :: (m ++ [y])) = x + 65536 * val m + 65536 ^ 15 * y := by
    intro x y
    rw [val, val_append, hml, val, val, Int.mul_zero, Int.add_zero, Int.mul_add, ← Int.mul_assoc, Int.add_assoc]
    rfl
  rw [e0] at hv hd hb
  have hz := hd z (by simp)
  have ha := hd a (by simp)
  have hmb := val_bound (a :: m) (fun d h => hd d (by rw [List.mem_cons] at h ⊢; rcases h with h | h; exact .inl h; exact .inr (by simp [h])))
  rw [List.length_cons, hml, val] at hmb
  rw [e1] at hv hb
  simp only [e0, e15, s15]
  simp only [show (65536 : Int) ^ 15 = 1766847064778384329583297500742918515827483896875618958121606201292619776 from by decide +kernel] at *
  rw [hm]
  by_cases hp : 57896044618658097711785492504343953926634992332820282019728792003956564819949 ≤ n
  · rw [if_pos (by omega), if_pos hp]
    refine dig_ext _ _ (fun d h => ?_) (digs_dig _ _) (by rw [digs_len]; simp [hml]) ?_
    · rw [List.mem_cons, List.mem_append, List.mem_singleton] at h
      rcases h with h | h | h
      · exact hd d (by simp [h])
      · exact hd d (by simp [h])
      · omega
    · rw [e1, digs_val, p16]
      omega
  · rw [if_neg (by omega), if_neg hp]
theorem val_set (ds : List Int) (j : Nat) (x : Int) (h : j < ds.length) : val (ds.set j x) = val ds + 65536 ^ j * (x - ds[j]) := by
  induction ds generalizing j with
  | nil => simp at h
  | cons d t ih =>
    cases j with
    | zero => simp only [List.set_cons_zero, val, List.getElem_cons_zero, Int.pow_zero]; omega
    | succ j =>
      simp only [List.set_cons_succ, val, List.getElem_cons_succ]
      rw [ih j (by simpa using h), Int.pow_succ, Int.mul_add, Int.mul_comm (65536 ^ j) 65536, Int.mul_assoc, Int.add_assoc]
theorem val_take (ds : List Int) (k : Nat) (h : k < ds.length) : val (ds.take (k + 1)) = val (ds.take k) + 65536 ^ k * ds[k] := by
  rw [List.take_succ_eq_append_getElem h, val_append, List.length_take, Nat.min_eq_left (by omega), val, val, Int.mul_zero, Int.add_zero]
theorem val_zeros (n : Nat) : val (List.replicate n 0) = 0 := by
  induction n with
  | zero => rfl
  | succ n ih => rw [List.replicate_succ, val, ih]; rfl
end Go.Proofs.Ytcnehbfcagghpaa.F3
