/- Numbers modulo a prime: Fermat's theorem, roots; 2^255 - 19 is prime. -/
namespace Go.Proofs.Ytcnehbfcagghpaa.Nt
def Pr (r : Nat) : Prop := 2 ≤ r ∧ ∀ d, d ∣ r → d = 1 ∨ d = r
theorem Pr.cop {r a : Nat} (h : Pr r) (ha : ¬ r ∣ a) : Nat.Coprime r a := by
  rcases h.2 _ (Nat.gcd_dvd_left r a) with e | e
  · exact e
  · exact absurd (e ▸ Nat.gcd_dvd_right r a) ha
theorem Pr.mul {r a b : Nat} (h : Pr r) (hd : r ∣ a * b) : r ∣ a ∨ r ∣ b := by
  by_cases ha : r ∣ a
  · exact .inl ha
  · exact .inr ((h.cop ha).dvd_of_dvd_mul_left hd)
theorem Pr.pow {r a k : Nat} (h : Pr r) (hd : r ∣ a ^ k) : r ∣ a := by
  induction k with
  | zero => rw [Nat.pow_zero] at hd; have := Nat.le_of_dvd (by omega) hd; have := h.1; omega
  | succ k ih => rw [Nat.pow_succ] at hd; exact (h.mul hd).elim ih id
theorem perm_of {l1 l2 : List Nat} (h1 : l1.Nodup) (hs : ∀ x, x ∈ l1 → x ∈ l2) (hl : l2.length ≤ l1.length) : l1.Perm l2 := by
  induction l1 generalizing l2 with
  | nil =>
    have : l2 = [] := List.eq_nil_of_length_eq_zero (by simpa using hl)
    subst this
    exact .refl _
  | cons a t ih =>
    have ha := hs a (by simp)
    rw [List.nodup_cons] at h1
    refine List.Perm.trans (List.Perm.cons a (ih h1.2 (fun x hx => ?_) ?_)) (List.perm_cons_erase ha).symm
    · have hne : x ≠ a := fun e => h1.1 (e ▸ hx)
      exact (List.mem_erase_of_ne hne).2 (hs x (by simp [hx]))
    · rw [List.length_erase_of_mem ha]
      simp at hl
      omega
theorem prod_mod (a r : Nat) (l : List Nat) : (l.map (fun i => a * i % r)).prod % r = a ^ l.length * l.prod % r := by
  induction l with
  | nil => simp
  | cons x t ih =>
    rw [List.map_cons, List.prod_cons, Nat.mul_mod, ih, Nat.mod_mod, ← Nat.mul_mod, List.prod_cons, List.length_cons, Nat.pow_succ]
    congr 1
    rw [Nat.mul_assoc, Nat.mul_left_comm x, Nat.mul_comm (a ^ t.length) a, Nat.mul_assoc]
theorem prod_free {r : Nat} (h : Pr r) (l : List Nat) (hl : ∀ x, x ∈ l → ¬ r ∣ x) : ¬ r ∣ l.prod := by
  induction l with
  | nil => intro hd; rw [List.prod_nil] at hd; have := Nat.le_of_dvd (by omega) hd; have := h.1; omega
  | cons x t ih =>
    rw [List.prod_cons]
    intro hd
    exact (h.mul hd).elim (hl x (by simp)) (ih (fun y hy => hl y (by simp [hy])))
theorem small_free {r x : Nat} (h0 : 0 < x) (h1 : x < r) : ¬ r ∣ x := fun hd => by have := Nat.le_of_dvd h0 hd; omega
theorem eq_of_dvd_diff {r a b : Nat} (_ : a ≤ b) (h : a % r = b % r) : r ∣ b - a := Nat.dvd_of_mod_eq_zero (Nat.sub_mod_eq_zero_of_mod_eq h.symm)
theorem mod_of_dvd {r a b : Nat} (hab : a ≤ b) (h : r ∣ b - a) : b % r = a % r := by
  obtain ⟨k, hk⟩ := h
  rw [show b = a + r * k by omega, Nat.add_mul_mod_self_left]
theorem fermat {r a : Nat} (h : Pr r) (ha : ¬ r ∣ a) : a ^ (r - 1) % r = 1 := by
  have h2 := h.1
  have hL : ∀ x, x ∈ (List.range (r - 1)).map (· + 1) → 0 < x ∧ x < r := by
    intro x hx
    simp only [List.mem_map, List.mem_range] at hx
    obtain ⟨y, hy, rfl⟩ := hx
    omega
  have inj : ∀ i j, i < j → j < r → 0 < i → a * i % r ≠ a * j % r := by
    intro i j hij hj hi e
    have := eq_of_dvd_diff (Nat.mul_le_mul_left a (Nat.le_of_lt hij)) e
    rw [← Nat.mul_sub] at this
    exact (h.mul this).elim ha (small_free (by omega) (by omega))
  have hM : (((List.range (r - 1)).map (· + 1)).map (fun i => a * i % r)).Perm ((List.range (r - 1)).map (· + 1)) := by
    refine perm_of ?_ ?_ (by simp)
    · rw [List.Nodup, List.pairwise_map, List.pairwise_map]
      have hn : (List.range (r - 1)).Pairwise (fun i j => i < j ∧ j < r - 1) := by
        rw [List.pairwise_iff_getElem]
        intro i j hi hj hij
        simp at hi hj ⊢
        omega
      exact hn.imp (fun {i j} hij => inj _ _ (by omega) (by omega) (by omega))
    · intro x hx
      rw [List.mem_map] at hx
      obtain ⟨i, hi, rfl⟩ := hx
      have hi' := hL i hi
      have hpos : a * i % r ≠ 0 := fun e => (h.mul (Nat.dvd_of_mod_eq_zero e)).elim ha (small_free hi'.1 hi'.2)
      have hlt : a * i % r < r := Nat.mod_lt _ (by omega)
      simp only [List.mem_map, List.mem_range]
      exact ⟨a * i % r - 1, by omega, by omega⟩
  have hp := prod_mod a r ((List.range (r - 1)).map (· + 1))
  rw [hM.prod_nat, List.length_map, List.length_range] at hp
  have hf := prod_free h ((List.range (r - 1)).map (· + 1)) (fun x hx => small_free (hL x hx).1 (hL x hx).2)
  have hpos : 0 < a ^ (r - 1) := Nat.pow_pos (Nat.pos_of_ne_zero (fun e => ha (e ▸ Nat.dvd_zero r)))
  generalize ((List.range (r - 1)).map (· + 1)).prod = M at hp hf
  have hd := eq_of_dvd_diff (a := 1 * M) (b := a ^ (r - 1) * M) (Nat.mul_le_mul_right M hpos) (by rw [Nat.one_mul]; exact hp)
  rw [← Nat.sub_mul] at hd
  rcases h.mul hd with hd | hd
  · rw [mod_of_dvd hpos hd, Nat.mod_eq_of_lt (by omega)]
  · exact absurd hd hf
theorem exists_pr (n : Nat) (h : 2 ≤ n) : ∃ r, Pr r ∧ r ∣ n := by
  induction n using Nat.strongRecOn with
  | _ n ih =>
    by_cases hp : Pr n
    · exact ⟨n, hp, Nat.dvd_refl n⟩
    · have : ∃ d, d ∣ n ∧ d ≠ 1 ∧ d ≠ n := Classical.byContradiction fun hc => hp ⟨h, fun d hd => by
        by_cases h1 : d = 1
        · exact .inl h1
        · exact .inr (Classical.byContradiction fun h2 => hc ⟨d, hd, h1, h2⟩)⟩
      obtain ⟨d, hd, h1, h2⟩ := this
      have hle := Nat.le_of_dvd (by omega) hd
      have h0 : d ≠ 0 := fun e => by rw [e] at hd; have := Nat.eq_zero_of_zero_dvd hd; omega
      obtain ⟨r, hr, hrd⟩ := ih d (by omega) (by omega)
      exact ⟨r, hr, Nat.dvd_trans hrd hd⟩
/-- A number with no divisor up to its root is prime. -/
theorem pr_of_small {n : Nat} (h : 2 ≤ n) (hs : ∀ r, Pr r → r ∣ n → n < r * r) : Pr n := by
  refine ⟨h, fun d hd => ?_⟩
  by_cases h1 : d = 1
  · exact .inl h1
  refine .inr (Classical.byContradiction fun h2 => ?_)
  obtain ⟨e, he⟩ := hd
  have h0 : d ≠ 0 := fun e0 => by rw [e0, Nat.zero_mul] at he; omega
  have e0 : e ≠ 0 := fun e0 => by rw [e0, Nat.mul_zero] at he; omega
  have e1 : e ≠ 1 := fun e1 => by rw [e1, Nat.mul_one] at he; omega
  obtain ⟨r, hr, hrd⟩ := exists_pr d (by omega)
  obtain ⟨s, hs', hsd⟩ := exists_pr e (by omega)
  have a1 := hs r hr (Nat.dvd_trans hrd ⟨e, he⟩)
  have a2 := hs s hs' (Nat.dvd_trans hsd ⟨d, by rw [he, Nat.mul_comm]⟩)
  have b1 := Nat.le_of_dvd (by omega) hrd
  have b2 := Nat.le_of_dvd (by omega) hsd
  have c1 : r * s ≤ n := by rw [he]; exact Nat.mul_le_mul b1 b2
  rcases Nat.le_total r s with hl | hl
  · have := Nat.mul_le_mul_left r hl; omega
  · have := Nat.mul_le_mul_right s hl; omega
theorem one_pow_mod {x r k n : Nat} (h2 : 2 ≤ r) (h : x ^ k % r = 1) : x ^ (k * n) % r = 1 := by
  rw [Nat.pow_mul, Nat.pow_mod, h, Nat.one_pow, Nat.mod_eq_of_lt (by omega)]
theorem gcd_pow {x r : Nat} (h2 : 2 ≤ r) (m n : Nat) : x ^ m % r = 1 → x ^ n % r = 1 → x ^ (Nat.gcd m n) % r = 1 := by
  induction m, n using Nat.gcd.induction with
  | H0 n => intro _ h; rwa [Nat.gcd_zero_left]
  | H1 m n _ ih =>
    intro h1 h3
    rw [Nat.gcd_rec]
    refine ih ?_ h1
    have e : x ^ n % r = (x ^ (m * (n / m)) % r) * (x ^ (n % m) % r) % r := by
      rw [← Nat.mul_mod, ← Nat.pow_add, Nat.div_add_mod]
    rw [one_pow_mod h2 h1, Nat.one_mul, Nat.mod_mod, h3] at e
    exact e.symm
/-- What a witness of q says of a prime divisor r of n. -/
theorem order_dvd {n q a r : Nat} (hn0 : 0 < n) (hr : Pr r) (hrn : r ∣ n) (hq : Pr q) (hqn : q ∣ n - 1) (h1 : a ^ (n - 1) % n = 1) (hg : Nat.gcd (a ^ ((n - 1) / q) % n + n - 1) n = 1) : q ∣ r - 1 := by
  have r2 := hr.1
  obtain ⟨k, hk⟩ := hqn
  have hq0 : 0 < q := by have := hq.1; omega
  rw [hk, Nat.mul_div_cancel_left _ hq0] at hg
  rw [hk] at h1
  have hx : (a ^ k) ^ q % r = 1 := by
    rw [← Nat.pow_mul, Nat.mul_comm, ← Nat.mod_mod_of_dvd _ hrn, h1, Nat.mod_eq_of_lt (by omega)]
  have hfree : ¬ r ∣ a ^ k := fun hd => by
    have := Nat.mod_eq_zero_of_dvd (Nat.dvd_trans hd (Nat.dvd_mul_right (a ^ k) ((a ^ k) ^ (q - 1))))
    rw [Nat.mul_comm, ← Nat.pow_succ, show (q - 1).succ = q by omega, hx] at this
    omega
  have hf := fermat hr hfree
  refine Classical.byContradiction fun hn => ?_
  have hc := gcd_pow r2 _ _ hx hf
  rw [show Nat.gcd q (r - 1) = 1 from hq.cop hn, Nat.pow_one] at hc
  have hd : r ∣ a ^ k % n + n - 1 := by
    apply Nat.dvd_of_mod_eq_zero
    obtain ⟨m, hm⟩ := hrn
    have e1 : (a ^ k % n) % r = 1 := by rw [Nat.mod_mod_of_dvd _ ⟨m, hm⟩]; exact hc
    have e2 : 1 ≤ a ^ k % n := by
      rcases Nat.eq_zero_or_pos (a ^ k % n) with e | e
      · rw [e] at e1; simp at e1
      · exact e
    have e3 := eq_of_dvd_diff (r := r) e2 (by rw [e1, Nat.mod_eq_of_lt (by omega)])
    obtain ⟨j, hj⟩ := e3
    rw [show a ^ k % n + n - 1 = r * (j + m) by rw [Nat.mul_add]; omega, Nat.mul_mod_right]
  have : r ∣ Nat.gcd (a ^ k % n + n - 1) n := Nat.dvd_gcd hd hrn
  rw [hg] at this
  have := Nat.le_of_dvd (by omega) this
  omega
def pm : Nat → Nat → Nat → Nat → Nat → Nat
  | 0, _, _, _, acc => acc
  | f + 1, a, e, n, acc => pm f (a * a % n) (e / 2) n (bif Nat.beq (e % 2) 1 then acc * a % n else acc)
theorem pm_eq (f a e n acc : Nat) (h : e < 2 ^ f) : pm f a e n acc % n = acc * a ^ e % n := by
  induction f generalizing a e acc with
  | zero => rw [show e = 0 by simpa using h]; simp [pm]
  | succ f ih =>
    rw [pm, ih _ _ _ (by rw [Nat.pow_succ] at h; omega)]
    have hs : a ^ e = (a * a) ^ (e / 2) * a ^ (e % 2) := by
      rw [← Nat.pow_two, ← Nat.pow_mul, ← Nat.pow_add, Nat.div_add_mod]
    have h1 : ∀ X, X * (a * a % n) ^ (e / 2) % n = X * (a * a) ^ (e / 2) % n := by
      intro X
      rw [Nat.mul_mod, ← Nat.pow_mod, ← Nat.mul_mod]
    rw [h1, hs]
    rcases Nat.mod_two_eq_zero_or_one e with h0 | h0
    · rw [h0, show Nat.beq 0 1 = false from rfl, cond_false, Nat.pow_zero, Nat.mul_one]
    · rw [h0]
      simp only [Nat.beq_refl, cond_true, Nat.pow_one]
      rw [Nat.mul_mod, Nat.mod_mod, ← Nat.mul_mod, Nat.mul_assoc, Nat.mul_comm a]
def check (n q a : Nat) : Bool := Nat.beq (pm 256 a (n - 1) n 1 % n) 1 && Nat.beq (Nat.gcd (pm 256 a ((n - 1) / q) n 1 % n + n - 1) n) 1 && Nat.beq ((n - 1) % q) 0
theorem check_spec {n q a : Nat} (hn : n < 2 ^ 256) (h : check n q a = true) : q ∣ n - 1 ∧ a ^ (n - 1) % n = 1 ∧ Nat.gcd (a ^ ((n - 1) / q) % n + n - 1) n = 1 := by
  simp only [check, Bool.and_eq_true, Nat.beq_eq] at h
  obtain ⟨⟨h1, h2⟩, h3⟩ := h
  rw [pm_eq _ _ _ _ _ (by omega), Nat.one_mul] at h1
  rw [pm_eq _ _ _ _ _ (by have := Nat.div_le_self (n - 1) q; omega), Nat.one_mul] at h2
  exact ⟨Nat.dvd_of_mod_eq_zero h3, h1, h2⟩
def tries : Nat → Nat → Nat → Bool
  | 0, _, _ => true
  | f + 1, d, n => bif Nat.beq (n % d) 0 then false else tries f (d + 1) n
theorem tries_spec (f d n : Nat) (h : tries f d n = true) : ∀ e, d ≤ e → e < d + f → ¬ e ∣ n := by
  induction f generalizing d with
  | zero => intro e h1 h2; omega
  | succ f ih =>
    rw [tries] at h
    intro e h1 h2 hd
    cases hb : Nat.beq (n % d) 0
    · rw [hb] at h
      by_cases he : e = d
      · subst he
        rw [Nat.mod_eq_zero_of_dvd hd] at hb
        simp at hb
      · exact ih (d + 1) h e (by omega) (by omega) hd
    · rw [hb] at h; simp at h
theorem pr_tries (n f : Nat) (h2 : 2 ≤ n) (hf : n < (f + 2) * (f + 2)) (h : tries f 2 n = true) : Pr n :=
  pr_of_small h2 fun r hr hd => Classical.byContradiction fun hc => by
    have hlt : r < f + 2 := Classical.byContradiction fun hge => by
      have := Nat.mul_le_mul (show f + 2 ≤ r by omega) (show f + 2 ≤ r by omega)
      omega
    exact tries_spec f 2 n h r hr.1 (by omega) hd
theorem pr_one {n q a : Nat} (h2 : 2 ≤ n) (hn : n < 2 ^ 256) (hq : Pr q) (hs : n < q * q) (h : check n q a = true) : Pr n :=
  pr_of_small h2 fun r hr hd => by
    obtain ⟨c1, c2, c3⟩ := check_spec hn h
    have h1 := order_dvd (by omega) hr hd hq c1 c2 c3
    have r2 := hr.1
    have := Nat.le_of_dvd (by omega) h1
    have := Nat.mul_le_mul (show q ≤ r by omega) (show q ≤ r by omega)
    omega
theorem pr_two {n q s a b : Nat} (h2 : 2 ≤ n) (hn : n < 2 ^ 256) (hq : Pr q) (hs : Pr s) (hqs : ¬ q ∣ s) (hl : n < (q * s) * (q * s)) (h : check n q a = true) (h' : check n s b = true) : Pr n :=
  pr_of_small h2 fun r hr hd => by
    obtain ⟨c1, c2, c3⟩ := check_spec hn h
    obtain ⟨d1, d2, d3⟩ := check_spec hn h'
    have h1 := order_dvd (by omega) hr hd hq c1 c2 c3
    have h3 := order_dvd (by omega) hr hd hs d1 d2 d3
    have hx := (hq.cop hqs).mul_dvd_of_dvd_of_dvd h1 h3
    have r2 := hr.1
    have := Nat.le_of_dvd (by omega) hx
    have := Nat.mul_le_mul (show q * s ≤ r by omega) (show q * s ≤ r by omega)
    omega
theorem pr127 : Pr 127 := pr_tries 127 10 (by omega) (by omega) (by decide +kernel)
theorem pr4153 : Pr 4153 := pr_tries 4153 63 (by omega) (by omega) (by decide +kernel)
theorem pr430751 : Pr 430751 := pr_tries 430751 655 (by omega) (by omega) (by decide +kernel)
theorem pr569003 : Pr 569003 := pr_tries 569003 753 (by omega) (by omega) (by decide +kernel)
theorem pr8574133 : Pr 8574133 := pr_tries 8574133 2927 (by omega) (by omega) (by decide +kernel)
theorem prA : Pr 2773320623 := pr_one (a := 2) (by omega) (by omega) pr569003 (by omega) (by decide +kernel)
theorem prB : Pr 72106336199 := pr_one (a := 2) (by omega) (by omega) prA (by omega) (by decide +kernel)
theorem prC : Pr 1919519569386763 := pr_two (a := 2) (b := 2) (by omega) (by omega) pr8574133 pr127 (by omega) (by omega) (by decide +kernel) (by decide +kernel)
theorem prD : Pr 31757755568855353 := pr_two (a := 2) (b := 2) (by omega) (by omega) pr430751 pr4153 (by omega) (by omega) (by decide +kernel) (by decide +kernel)
theorem prE : Pr 75445702479781427272750846543864801 := pr_two (a := 2) (b := 2) (by omega) (by omega) prC prB (by omega) (by omega) (by decide +kernel) (by decide +kernel)
theorem prF : Pr 74058212732561358302231226437062788676166966415465897661863160754340907 := pr_two (a := 2) (b := 2) (by omega) (by omega) prE prD (by omega) (by omega) (by decide +kernel) (by decide +kernel)
theorem pr25519 : Pr 57896044618658097711785492504343953926634992332820282019728792003956564819949 := pr_one (a := 2) (by omega) (by omega) prF (by omega) (by decide +kernel)
theorem mm {p a b c d : Nat} (h : a % p = b % p) (k : c % p = d % p) : a * c % p = b * d % p := by
  rw [Nat.mul_mod, h, k, ← Nat.mul_mod]
theorem mp {p a b : Nat} (h : a % p = b % p) (n : Nat) : a ^ n % p = b ^ n % p := by
  rw [Nat.pow_mod, h, ← Nat.pow_mod]
theorem sq_one {p u : Nat} (hp : Pr p) (h : u * u % p = 1) : u % p = 1 ∨ u % p = p - 1 := by
  have h2 := hp.1
  have hu : 0 < u := Nat.pos_of_ne_zero fun e => by subst e; simp at h
  have h1 := eq_of_dvd_diff (r := p) (a := 1) (b := u * u) (Nat.mul_pos hu hu) (by rw [h, Nat.mod_eq_of_lt (by omega)])
  have hf : u * u - 1 = (u - 1) * (u + 1) := by
    obtain ⟨v, rfl⟩ : ∃ v, u = v + 1 := ⟨u - 1, by omega⟩
    simp only [Nat.add_sub_cancel, Nat.mul_add, Nat.add_mul, Nat.one_mul, Nat.mul_one]
    omega
  rw [hf] at h1
  rcases hp.mul h1 with h1 | h1
  · left
    rw [mod_of_dvd hu h1, Nat.mod_eq_of_lt (by omega)]
  · right
    obtain ⟨k, hk⟩ := h1
    have hk0 : k ≠ 0 := fun e => by subst e; simp at hk
    obtain ⟨j, rfl⟩ : ∃ j, k = j + 1 := ⟨k - 1, by omega⟩
    rw [Nat.mul_add, Nat.mul_one] at hk
    rw [show u = (p - 1) + p * j by omega, Nat.add_mul_mod_self_left, Nat.mod_eq_of_lt (by omega)]
theorem two_roots {p y z : Nat} (hp : Pr p) (hy : y < p) (hz : z < p) (h : y * y % p = z * z % p) : y = z ∨ y + z = p := by
  have key : ∀ y z : Nat, y < p → z ≤ y → y * y % p = z * z % p → y = z ∨ y + z = p := by
    intro y z hy hzy h
    have h1 := eq_of_dvd_diff (r := p) (a := z * z) (b := y * y) (Nat.mul_le_mul hzy hzy) h.symm
    obtain ⟨d, rfl⟩ : ∃ d, y = z + d := ⟨y - z, by omega⟩
    rw [show (z + d) * (z + d) - z * z = d * (z + d + z) by simp only [Nat.mul_add, Nat.add_mul]; have := Nat.mul_comm z d; omega] at h1
    rcases hp.mul h1 with h1 | h1
    · left
      rcases Nat.eq_zero_or_pos d with e | e
      · omega
      · exact absurd h1 (small_free e (by omega))
    · obtain ⟨k, hk⟩ := h1
      rcases Nat.eq_zero_or_pos k with e | e
      · subst e; left; omega
      · right
        have : k < 2 := Nat.lt_of_mul_lt_mul_left (a := p) (by omega)
        have : k = 1 := by omega
        subst this
        omega
  rcases Nat.le_total z y with hl | hl
  · exact key y z hy hl h
  · exact (key z y hz hl h.symm).elim (fun e => .inl e.symm) (fun e => .inr (by omega))
theorem inv_one {p a : Nat} (hp : Pr p) (ha : ¬ p ∣ a) : a * a ^ (p - 2) % p = 1 := by
  have h2 := hp.1
  rw [Nat.mul_comm, ← Nat.pow_succ, show (p - 2).succ = p - 1 by omega]
  exact fermat hp ha
/-- The root that is tried: a to the power of (p + 3) / 8, and that times i. -/
def rootOf (p i a : Nat) : Nat := if a ^ ((p + 3) / 8) % p * (a ^ ((p + 3) / 8) % p) % p = a then a ^ ((p + 3) / 8) % p else a ^ ((p + 3) / 8) % p * i % p
theorem rootOf_iff {p i a : Nat} (hp : Pr p) (h8 : p % 8 = 5) (hi : i * i % p = p - 1) (ha : a < p) : (rootOf p i a * rootOf p i a % p = a) ↔ ∃ y, y * y % p = a := by
  refine ⟨fun h => ⟨_, h⟩, fun ⟨y, hy⟩ => ?_⟩
  have h2 := hp.1
  unfold rootOf
  split
  · assumption
  rename_i hne
  obtain ⟨e, he⟩ : ∃ e, p = 8 * e + 5 := ⟨p / 8, by omega⟩
  have hk : (p + 3) / 8 = e + 1 := by omega
  rw [hk] at hne ⊢
  have hxx : a ^ (e + 1) % p * (a ^ (e + 1) % p) % p = a * a ^ (2 * e + 1) % p := by
    rw [← Nat.mul_mod, ← Nat.pow_add, Nat.mul_comm a, ← Nat.pow_succ]
    congr 2
    omega
  by_cases hy0 : p ∣ y
  · exfalso
    apply hne
    have e0 : a = 0 := by rw [← hy]; exact Nat.mod_eq_zero_of_dvd (Nat.dvd_trans hy0 (Nat.dvd_mul_right y y))
    rw [hxx, e0]
    simp
  have hf := fermat hp hy0
  have ht : a ^ (2 * e + 1) % p = y ^ (4 * e + 2) % p := by
    rw [mp (b := y * y) (by rw [← hy, Nat.mod_mod]), ← Nat.pow_two, ← Nat.pow_mul]
    congr 2
    omega
  have hs : y ^ (4 * e + 2) * y ^ (4 * e + 2) % p = 1 := by
    rw [← Nat.pow_add, ← hf]
    congr 2
    omega
  rcases sq_one hp hs with h1 | h1
  · exfalso
    apply hne
    rw [hxx, mm (b := a) (d := 1) rfl (by rw [ht, h1, Nat.mod_eq_of_lt (by omega)]), Nat.mul_one, Nat.mod_eq_of_lt ha]
  · have hsq : (a ^ (e + 1) % p * i % p) * (a ^ (e + 1) % p * i % p) % p = (a * (p - 1)) * (p - 1) % p := by
      rw [← Nat.mul_mod, Nat.mul_mul_mul_comm]
      refine mm ?_ (by rw [hi, Nat.mod_eq_of_lt (by omega)])
      rw [hxx]
      exact mm rfl (by rw [ht, h1, Nat.mod_eq_of_lt (by omega)])
    rw [hsq, Nat.mul_assoc, mm (b := a) (d := 1) rfl ?_, Nat.mul_one, Nat.mod_eq_of_lt ha]
    obtain ⟨q, rfl⟩ : ∃ q, p = q + 2 := ⟨p - 2, by omega⟩
    rw [show (q + 2 - 1) * (q + 2 - 1) = 1 + (q + 2) * q by
      rw [show q + 2 - 1 = q + 1 by omega]; simp only [Nat.mul_add, Nat.add_mul]; omega, Nat.add_mul_mod_self_left]
end Go.Proofs.Ytcnehbfcagghpaa.Nt
