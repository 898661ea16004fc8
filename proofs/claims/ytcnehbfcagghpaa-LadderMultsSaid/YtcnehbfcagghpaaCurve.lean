/- The group of x^2 + y^2 = 1 + d x^2 y^2, d no square, over the integers modulo a prime; Montgomery's ladder over it. Nothing of the program stands here. Squares modulo a prime that is 5 modulo 8. Nothing of the program stands here. The base point's order is prime. Nothing of the program stands here. Montgomery's ladder in natural numbers modulo 2^255 - 19. Nothing of the program stands here. The ladder of curve25519: order, small points, the base point. Nothing of the program stands here. The program's ladder in natural numbers: what it answers is the reference's multiple. Nothing of the program stands here. -/
import Derived.Test.YtcnehbfcagghpaaNt
namespace Go.Proofs.Ytcnehbfcagghpaa.Edw
/-- A prime beyond 2. -/
class Prm (p : Nat) : Prop where
  pr : Nt.Pr p
  gt : 2 < p
theorem Prm.ne (p : Nat) [h : Prm p] : p ≠ 0 := by have := h.gt; omega
instance nz {p : Nat} [Prm p] : NeZero p := ⟨Prm.ne p⟩
variable {p : Nat} [pp : Prm p]
instance inv0 : Inv (Fin p) := ⟨fun a => Fin.ofNat p (a.val ^ (p - 2))⟩
theorem inv_def (a : Fin p) : a⁻¹ = Fin.ofNat p (a.val ^ (p - 2)) := rfl
theorem zero_ne : (0 : Fin p) ≠ 1 := by
  intro h
  have h1 := congrArg Fin.val h
  have h2 := pp.gt
  have e0 : (0 : Fin p).val = 0 % p := rfl
  have e1 : (1 : Fin p).val = 1 % p := rfl
  rw [e0, e1, Nat.zero_mod, Nat.mod_eq_of_lt (show 1 < p by omega)] at h1
  omega
theorem inv_0 : (0 : Fin p)⁻¹ = 0 := by
  have h2 := pp.gt
  rw [inv_def]
  apply Fin.ext
  simp [Nat.zero_pow (show 0 < p - 2 by omega)]
theorem inv_c {a : Fin p} (h : a ≠ 0) : a * a⁻¹ = 1 := by
  have h2 := pp.gt
  have h0 : a.val ≠ 0 := fun h0 => h (Fin.ext (by simpa using h0))
  have hd : ¬ p ∣ a.val := fun hd => by
    have := Nat.le_of_dvd (by omega) hd
    have := a.isLt
    omega
  have e := Nt.inv_one pp.pr hd
  rw [inv_def]
  apply Fin.ext
  rw [Fin.val_mul]
  simp only [Fin.val_ofNat, Nat.mul_mod_mod]
  rw [e]
  have e1 : (1 : Fin p).val = 1 % p := rfl
  rw [e1, Nat.mod_eq_of_lt (show 1 < p by omega)]
/-- A point of the curve. -/
def On (d : Fin p) (x y : Fin p) : Prop := x*x + y*y = 1 + d*(x*x)*(y*y)
def NoSq (d : Fin p) : Prop := ∀ t : Fin p, t*t ≠ d
theorem mul_ne {a b : Fin p} (ha : a ≠ 0) (hb : b ≠ 0) : a*b ≠ 0 := by
  intro h
  have := inv_c ha
  apply hb
  grind
theorem cancel {a b c : Fin p} (ha : a ≠ 0) (h : a*b = a*c) : b = c := by
  have := inv_c ha
  grind
theorem two_ne_of (h2 : (2 : Fin p) ≠ 0) {a : Fin p} (h : a = -a) : a = 0 := by
  have k := inv_c h2
  have h1 : a + a = 0 := by grind
  have e : (a + a)*2⁻¹ = a*(2*2⁻¹) := by grind
  rw [h1, k] at e
  grind
theorem sq_div {a b d : Fin p} (hd : NoSq d) (hb : b ≠ 0) (h : a*a = d*b*b) : False := by
  have k := inv_c hb
  refine hd (a * b⁻¹) ?_
  have : a * b⁻¹ * (a * b⁻¹) = a*a*(b⁻¹*b⁻¹) := by grind
  rw [this, h]
  have : d*b*b*(b⁻¹*b⁻¹) = d*(b*b⁻¹)*(b*b⁻¹) := by grind
  rw [this, k]
  grind
theorem ne_one {d x1 y1 x2 y2 : Fin p} (hd : NoSq d) (h2 : (2 : Fin p) ≠ 0) (h1 : On d x1 y1) (hh : On d x2 y2) (e : Fin p) (he : e*e = 1) : d*x1*x2*y1*y2 ≠ e := by
  intro h
  unfold On at h1 hh
  have hne : e ≠ 0 := by
    intro h0
    grind
  have hx1 : x1 ≠ 0 := by intro h0; grind
  have hy1 : y1 ≠ 0 := by intro h0; grind
  have hx2 : x2 ≠ 0 := by intro h0; grind
  have k0 : d*(x1*x1)*(y1*y1)*(x2*x2 + y2*y2) = x1*x1 + y1*y1 := by
    have : d*(x1*x1)*(y1*y1)*(x2*x2 + y2*y2) = d*(x1*x1)*(y1*y1) + (d*x1*x2*y1*y2)*(d*x1*x2*y1*y2) := by rw [hh]; grind
    rw [this, h, he, h1]
    grind
  have k00 : d*(x1*x1)*(y1*y1)*(x2*y2) = e*(x1*y1) := by rw [← h]; grind
  by_cases hs : x2 + y2 = 0
  · have hs2 : x2 - y2 ≠ 0 := by
      intro h0
      have : x2 + x2 = 0 := by grind
      have : x2 = -x2 := by grind
      exact hx2 (two_ne_of h2 this)
    have k1 : (x1 - e*y1)*(x1 - e*y1) = d*(x1*y1*(x2 - y2))*(x1*y1*(x2 - y2)) := by grind
    have k2 : x1*y1*(x2 - y2) ≠ 0 := mul_ne (mul_ne hx1 hy1) hs2
    exact sq_div hd k2 k1
  · have k1 : (x1 + e*y1)*(x1 + e*y1) = d*(x1*y1*(x2 + y2))*(x1*y1*(x2 + y2)) := by
      have e1 : (x1 + e*y1)*(x1 + e*y1) = x1*x1 + (e*e)*(y1*y1) + 2*(e*(x1*y1)) := by grind
      have e2 : d*(x1*y1*(x2 + y2))*(x1*y1*(x2 + y2)) = d*(x1*x1)*(y1*y1)*(x2*x2 + y2*y2) + 2*(d*(x1*x1)*(y1*y1)*(x2*y2)) := by grind
      rw [e1, e2, he, k0, k00]
      grind
    have k2 : x1*y1*(x2 + y2) ≠ 0 := mul_ne (mul_ne hx1 hy1) hs
    exact sq_div hd k2 k1
theorem den_p {d x1 y1 x2 y2 : Fin p} (hd : NoSq d) (h2 : (2 : Fin p) ≠ 0) (h1 : On d x1 y1) (hh : On d x2 y2) : 1 + d*x1*x2*y1*y2 ≠ 0 := by
  intro h
  exact ne_one hd h2 h1 hh (-1) (by grind) (by grind)
theorem den_m {d x1 y1 x2 y2 : Fin p} (hd : NoSq d) (h2 : (2 : Fin p) ≠ 0) (h1 : On d x1 y1) (hh : On d x2 y2) : 1 - d*x1*x2*y1*y2 ≠ 0 := by
  intro h
  exact ne_one hd h2 h1 hh 1 (by grind) (by grind)
theorem aux_l (P M x y : Fin p) : P*P*(M*M)*(x*x + y*y) = (x*P)*(x*P)*(M*M) + (y*M)*(y*M)*(P*P) := by grind
theorem aux_r (d P M x y : Fin p) : P*P*(M*M)*(1 + d*(x*x)*(y*y)) = P*P*(M*M) + d*((x*P)*(x*P))*((y*M)*(y*M)) := by grind
theorem clos {d x1 y1 x2 y2 : Fin p} (h1 : On d x1 y1) (hh : On d x2 y2) : (x1 * y2 + y1 * x2) * (x1 * y2 + y1 * x2) * ((1 - d * x1 * x2 * y1 * y2) * (1 - d * x1 * x2 * y1 * y2)) + (y1 * y2 - x1 * x2) * (y1 * y2 - x1 * x2) * ((1 + d * x1 * x2 * y1 * y2) * (1 + d * x1 * x2 * y1 * y2)) = (1 + d * x1 * x2 * y1 * y2) * (1 + d * x1 * x2 * y1 * y2) * ((1 - d * x1 * x2 * y1 * y2) * (1 - d * x1 * x2 * y1 * y2)) + d * ((x1 * y2 + y1 * x2) * (x1 * y2 + y1 * x2)) * ((y1 * y2 - x1 * x2) * (y1 * y2 - x1 * x2)) := by
  unfold On at *
  grind
theorem sum_on {d x1 y1 x2 y2 x3 y3 : Fin p} (hd : NoSq d) (h2 : (2 : Fin p) ≠ 0) (h1 : On d x1 y1) (hh : On d x2 y2) (hx : x3*(1 + d*x1*x2*y1*y2) = x1*y2 + y1*x2) (hy : y3*(1 - d*x1*x2*y1*y2) = y1*y2 - x1*x2) : On d x3 y3 := by
  have n1 := den_p hd h2 h1 hh
  have n2 := den_m hd h2 h1 hh
  have n3 := mul_ne (mul_ne n1 n1) (mul_ne n2 n2)
  unfold On
  refine cancel n3 ?_
  rw [aux_l, aux_r, hx, hy]
  exact clos h1 hh
/-- The sum of two points. -/
def addx (d x1 y1 x2 y2 : Fin p) : Fin p := (x1*y2 + y1*x2) * (1 + d*x1*x2*y1*y2)⁻¹
def addy (d x1 y1 x2 y2 : Fin p) : Fin p := (y1*y2 - x1*x2) * (1 - d*x1*x2*y1*y2)⁻¹
theorem addx_eq {d x1 y1 x2 y2 : Fin p} (hd : NoSq d) (h2 : (2 : Fin p) ≠ 0) (h1 : On d x1 y1) (hh : On d x2 y2) : addx d x1 y1 x2 y2 * (1 + d*x1*x2*y1*y2) = x1*y2 + y1*x2 := by
  have k := inv_c (den_p hd h2 h1 hh)
  unfold addx
  generalize (1 + d*x1*x2*y1*y2) = P at *
  grind
theorem addy_eq {d x1 y1 x2 y2 : Fin p} (hd : NoSq d) (h2 : (2 : Fin p) ≠ 0) (h1 : On d x1 y1) (hh : On d x2 y2) : addy d x1 y1 x2 y2 * (1 - d*x1*x2*y1*y2) = y1*y2 - x1*x2 := by
  have k := inv_c (den_m hd h2 h1 hh)
  unfold addy
  generalize (1 - d*x1*x2*y1*y2) = P at *
  grind
theorem assoc_num_x {d x1 y1 x2 y2 x3 y3 : Fin p} (h1 : On d x1 y1) (h2 : On d x2 y2) (h3 : On d x3 y3) :
    ((x1*y2+y1*x2)*(1 - d*x1*x2*y1*y2)*y3 + (y1*y2-x1*x2)*(1 + d*x1*x2*y1*y2)*x3) * ((1 + d*x2*x3*y2*y3)*(1 - d*x2*x3*y2*y3) + d*x1*y1*(x2*y3+y2*x3)*(y2*y3-x2*x3))
  = (x1*(y2*y3-x2*x3)*(1 + d*x2*x3*y2*y3) + y1*(x2*y3+y2*x3)*(1 - d*x2*x3*y2*y3)) * ((1 + d*x1*x2*y1*y2)*(1 - d*x1*x2*y1*y2) + d*(x1*y2+y1*x2)*(y1*y2-x1*x2)*x3*y3) := by
  unfold On at *
  grind (ringSteps := 100000)
theorem assoc_num_y {d x1 y1 x2 y2 x3 y3 : Fin p} (h1 : On d x1 y1) (h2 : On d x2 y2) (h3 : On d x3 y3) :
    ((y1*y2-x1*x2)*(1 + d*x1*x2*y1*y2)*y3 - (x1*y2+y1*x2)*(1 - d*x1*x2*y1*y2)*x3) * ((1 + d*x2*x3*y2*y3)*(1 - d*x2*x3*y2*y3) - d*x1*y1*(x2*y3+y2*x3)*(y2*y3-x2*x3))
  = (y1*(y2*y3-x2*x3)*(1 + d*x2*x3*y2*y3) - x1*(x2*y3+y2*x3)*(1 - d*x2*x3*y2*y3)) * ((1 + d*x1*x2*y1*y2)*(1 - d*x1*x2*y1*y2) - d*(x1*y2+y1*x2)*(y1*y2-x1*x2)*x3*y3) := by
  unfold On at *
  grind (ringSteps := 100000)
theorem add_on {d x1 y1 x2 y2 : Fin p} (hd : NoSq d) (h2 : (2 : Fin p) ≠ 0) (h1 : On d x1 y1) (hh : On d x2 y2) : On d (addx d x1 y1 x2 y2) (addy d x1 y1 x2 y2) :=
  sum_on hd h2 h1 hh (addx_eq hd h2 h1 hh) (addy_eq hd h2 h1 hh)
/-- Both ways of adding three, cleared of what is below the line. -/
theorem clear_l (d P M X Y x y s t : Fin p) (hX : X*P = s) (hY : Y*M = t) : P*M*(1 + d*X*x*Y*y) = P*M + d*s*t*x*y ∧ P*M*(1 - d*X*x*Y*y) = P*M - d*s*t*x*y ∧ P*M*(X*y + Y*x) = s*M*y + t*P*x ∧ P*M*(Y*y - X*x) = t*P*y - s*M*x := by
  subst hX hY
  refine ⟨?_, ?_, ?_, ?_⟩ <;> grind
theorem eq_of_cross {a b P Q m n : Fin p} (hP : P ≠ 0) (hQ : Q ≠ 0) (ha : a*P = m) (hb : b*Q = n) (h : m*Q = n*P) : a = b := by
  refine cancel (mul_ne hP hQ) ?_
  subst ha hb
  grind
theorem swap3 (x P M e : Fin p) : x*(P*M*e) = P*M*(x*e) := by grind
theorem swap4 (U y V x : Fin p) : U*y + V*x = x*V + y*U := by grind
theorem swap5 (d x U y V : Fin p) : 1 + d*x*U*y*V = 1 + d*U*x*V*y := by grind
theorem assoc_x {d x1 y1 x2 y2 x3 y3 : Fin p} (hd : NoSq d) (h2 : (2 : Fin p) ≠ 0) (o1 : On d x1 y1) (o2 : On d x2 y2) (o3 : On d x3 y3) :
    addx d (addx d x1 y1 x2 y2) (addy d x1 y1 x2 y2) x3 y3 = addx d x1 y1 (addx d x2 y2 x3 y3) (addy d x2 y2 x3 y3) := by
  have o12 := add_on hd h2 o1 o2
  have o23 := add_on hd h2 o2 o3
  have p12 := den_p hd h2 o1 o2
  have m12 := den_m hd h2 o1 o2
  have p23 := den_p hd h2 o2 o3
  have m23 := den_m hd h2 o2 o3
  have eL := addx_eq hd h2 o12 o3
  have eR := addx_eq hd h2 o1 o23
  have nL := den_p hd h2 o12 o3
  have nR := den_p hd h2 o1 o23
  have a1 := addx_eq hd h2 o1 o2
  have a2 := addy_eq hd h2 o1 o2
  have b1 := addx_eq hd h2 o2 o3
  have b2 := addy_eq hd h2 o2 o3
  have num := assoc_num_x o1 o2 o3
  generalize addx d (addx d x1 y1 x2 y2) (addy d x1 y1 x2 y2) x3 y3 = XL at *
  generalize addx d x1 y1 (addx d x2 y2 x3 y3) (addy d x2 y2 x3 y3) = XR at *
  generalize addx d x1 y1 x2 y2 = X at *
  generalize addy d x1 y1 x2 y2 = Y at *
  generalize addx d x2 y2 x3 y3 = U at *
  generalize addy d x2 y2 x3 y3 = V at *
  obtain ⟨c1, _, c3, _⟩ := clear_l d _ _ X Y x3 y3 _ _ a1 a2
  obtain ⟨e1, _, e3, _⟩ := clear_l d _ _ U V x1 y1 _ _ b1 b2
  refine eq_of_cross (mul_ne (mul_ne p12 m12) nL) (mul_ne (mul_ne p23 m23) nR) (m := _) (n := _) rfl rfl ?_
  have q1 : XL * ((1 + d*x1*x2*y1*y2) * (1 - d*x1*x2*y1*y2) * (1 + d*X*x3*Y*y3)) = (x1*y2 + y1*x2)*(1 - d*x1*x2*y1*y2)*y3 + (y1*y2 - x1*x2)*(1 + d*x1*x2*y1*y2)*x3 := by rw [← c3, ← eL]; exact swap3 _ _ _ _
  have q2 : XR * ((1 + d*x2*x3*y2*y3) * (1 - d*x2*x3*y2*y3) * (1 + d*x1*U*y1*V)) = (x2*y3 + y2*x3)*(1 - d*x2*x3*y2*y3)*y1 + (y2*y3 - x2*x3)*(1 + d*x2*x3*y2*y3)*x1 := by rw [← e3, show U*y1 + V*x1 = x1*V + y1*U from swap4 _ _ _ _, ← eR]; exact swap3 _ _ _ _
  rw [q1, q2, c1, show 1 + d*x1*U*y1*V = 1 + d*U*x1*V*y1 from swap5 _ _ _ _ _, e1]
  have num' := num
  generalize (x1*y2 + y1*x2) = s at *
  generalize (y1*y2 - x1*x2) = t at *
  generalize (x2*y3 + y2*x3) = s' at *
  generalize (y2*y3 - x2*x3) = t' at *
  generalize (1 + d*x1*x2*y1*y2) = P at *
  generalize (1 - d*x1*x2*y1*y2) = M at *
  generalize (1 + d*x2*x3*y2*y3) = P' at *
  generalize (1 - d*x2*x3*y2*y3) = M' at *
  clear c1 c3 e1 e3 q1 q2 eL eR a1 a2 b1 b2 nL nR p12 m12 p23 m23 o12 o23 o1 o2 o3 hd h2 num
  grind
theorem swap6 (V y U x : Fin p) : V*y - U*x = y*V - x*U := by grind
theorem swap7 (d x U y V : Fin p) : 1 - d*x*U*y*V = 1 - d*U*x*V*y := by grind
theorem assoc_y {d x1 y1 x2 y2 x3 y3 : Fin p} (hd : NoSq d) (h2 : (2 : Fin p) ≠ 0) (o1 : On d x1 y1) (o2 : On d x2 y2) (o3 : On d x3 y3) :
    addy d (addx d x1 y1 x2 y2) (addy d x1 y1 x2 y2) x3 y3 = addy d x1 y1 (addx d x2 y2 x3 y3) (addy d x2 y2 x3 y3) := by
  have o12 := add_on hd h2 o1 o2
  have o23 := add_on hd h2 o2 o3
  have p12 := den_p hd h2 o1 o2
  have m12 := den_m hd h2 o1 o2
  have p23 := den_p hd h2 o2 o3
  have m23 := den_m hd h2 o2 o3
  have eL := addy_eq hd h2 o12 o3
  have eR := addy_eq hd h2 o1 o23
  have nL := den_m hd h2 o12 o3
  have nR := den_m hd h2 o1 o23
  have a1 := addx_eq hd h2 o1 o2
  have a2 := addy_eq hd h2 o1 o2
  have b1 := addx_eq hd h2 o2 o3
  have b2 := addy_eq hd h2 o2 o3
  have num := assoc_num_y o1 o2 o3
  generalize addy d (addx d x1 y1 x2 y2) (addy d x1 y1 x2 y2) x3 y3 = XL at *
  generalize addy d x1 y1 (addx d x2 y2 x3 y3) (addy d x2 y2 x3 y3) = XR at *
  generalize addx d x1 y1 x2 y2 = X at *
  generalize addy d x1 y1 x2 y2 = Y at *
  generalize addx d x2 y2 x3 y3 = U at *
  generalize addy d x2 y2 x3 y3 = V at *
  obtain ⟨_, c1, _, c3⟩ := clear_l d _ _ X Y x3 y3 _ _ a1 a2
  obtain ⟨_, e1, _, e3⟩ := clear_l d _ _ U V x1 y1 _ _ b1 b2
  refine eq_of_cross (mul_ne (mul_ne p12 m12) nL) (mul_ne (mul_ne p23 m23) nR) (m := _) (n := _) rfl rfl ?_
  have q1 : XL * ((1 + d*x1*x2*y1*y2) * (1 - d*x1*x2*y1*y2) * (1 - d*X*x3*Y*y3)) = (y1*y2 - x1*x2)*(1 + d*x1*x2*y1*y2)*y3 - (x1*y2 + y1*x2)*(1 - d*x1*x2*y1*y2)*x3 := by rw [← c3, ← eL]; exact swap3 _ _ _ _
  have q2 : XR * ((1 + d*x2*x3*y2*y3) * (1 - d*x2*x3*y2*y3) * (1 - d*x1*U*y1*V)) = (y2*y3 - x2*x3)*(1 + d*x2*x3*y2*y3)*y1 - (x2*y3 + y2*x3)*(1 - d*x2*x3*y2*y3)*x1 := by rw [← e3, show V*y1 - U*x1 = y1*V - x1*U from swap6 _ _ _ _, ← eR]; exact swap3 _ _ _ _
  rw [q1, q2, c1, show 1 - d*x1*U*y1*V = 1 - d*U*x1*V*y1 from swap7 _ _ _ _ _, e1]
  have num' := num
  generalize (x1*y2 + y1*x2) = s at *
  generalize (y1*y2 - x1*x2) = t at *
  generalize (x2*y3 + y2*x3) = s' at *
  generalize (y2*y3 - x2*x3) = t' at *
  generalize (1 + d*x1*x2*y1*y2) = P at *
  generalize (1 - d*x1*x2*y1*y2) = M at *
  generalize (1 + d*x2*x3*y2*y3) = P' at *
  generalize (1 - d*x2*x3*y2*y3) = M' at *
  clear c1 c3 e1 e3 q1 q2 eL eR a1 a2 b1 b2 nL nR p12 m12 p23 m23 o12 o23 o1 o2 o3 hd h2 num
  have a1 : P' * M' - d * s' * t' * x1 * y1 = P' * M' - d * x1 * y1 * s' * t' := by grind
  have a2 : t' * P' * y1 - s' * M' * x1 = y1 * t' * P' - x1 * s' * M' := by grind
  rw [a1, a2]
  exact num'
theorem comm_x (d x1 y1 x2 y2 : Fin p) : addx d x1 y1 x2 y2 = addx d x2 y2 x1 y1 := by
  unfold addx
  rw [show x1*y2 + y1*x2 = x2*y1 + y2*x1 by grind, show 1 + d*x1*x2*y1*y2 = 1 + d*x2*x1*y2*y1 by grind]
theorem comm_y (d x1 y1 x2 y2 : Fin p) : addy d x1 y1 x2 y2 = addy d x2 y2 x1 y1 := by
  unfold addy
  rw [show y1*y2 - x1*x2 = y2*y1 - x2*x1 by grind, show 1 - d*x1*x2*y1*y2 = 1 - d*x2*x1*y2*y1 by grind]
theorem one_inv : (1 : Fin p)⁻¹ = 1 := by
  have h : (1 : Fin p) ≠ 0 := fun h => zero_ne h.symm
  have := inv_c h
  grind
theorem zero_x (d x y : Fin p) : addx d 0 1 x y = x := by
  unfold addx
  rw [show 1 + d*0*x*1*y = (1 : Fin p) by grind, one_inv]
  grind
theorem zero_y (d x y : Fin p) : addy d 0 1 x y = y := by
  unfold addy
  rw [show 1 - d*0*x*1*y = (1 : Fin p) by grind, one_inv]
  grind
/-- What is asked of d. -/
class Good (d : Fin p) : Prop where
  sq : NoSq d
  two : (2 : Fin p) ≠ 0
/-- The curve's points. -/
structure Pt (d : Fin p) where
  x : Fin p
  y : Fin p
  on : On d x y
namespace Pt
variable {d : Fin p}
theorem ext' {P Q : Pt d} (hx : P.x = Q.x) (hy : P.y = Q.y) : P = Q := by
  cases P; cases Q; simp at hx hy; subst hx hy; rfl
def O : Pt d := ⟨0, 1, by unfold On; grind⟩
def neg (P : Pt d) : Pt d := ⟨-P.x, P.y, by have := P.on; unfold On at *; grind⟩
variable [g : Good d]
def add (P Q : Pt d) : Pt d := ⟨addx d P.x P.y Q.x Q.y, addy d P.x P.y Q.x Q.y, add_on g.sq g.two P.on Q.on⟩
theorem add_comm (P Q : Pt d) : add P Q = add Q P := ext' (comm_x _ _ _ _ _) (comm_y _ _ _ _ _)
theorem add_assoc (P Q R : Pt d) : add (add P Q) R = add P (add Q R) := ext' (assoc_x g.sq g.two P.on Q.on R.on) (assoc_y g.sq g.two P.on Q.on R.on)
theorem O_add (P : Pt d) : add O P = P := ext' (zero_x _ _ _) (zero_y _ _ _)
theorem add_O (P : Pt d) : add P O = P := by rw [add_comm, O_add]
theorem neg_add (P : Pt d) : add (neg P) P = O := by
  refine ext' ?_ ?_
  · refine cancel (den_p g.sq g.two (neg P).on P.on) ?_
    have := addx_eq g.sq g.two (neg P).on P.on
    have e : (add (neg P) P).x = addx d (neg P).x (neg P).y P.x P.y := rfl
    rw [e]
    show _ = _ * (0 : Fin p)
    have h : (neg P).x * P.y + (neg P).y * P.x = 0 := by show -P.x*P.y + P.y*P.x = 0; grind
    rw [h] at this
    grind
  · refine cancel (den_m g.sq g.two (neg P).on P.on) ?_
    have := addy_eq g.sq g.two (neg P).on P.on
    have e : (add (neg P) P).y = addy d (neg P).x (neg P).y P.x P.y := rfl
    rw [e]
    show _ = _ * (1 : Fin p)
    have h : (neg P).y * P.y - (neg P).x * P.x = 1 - d*(neg P).x*P.x*(neg P).y*P.y := by
      show P.y*P.y - (-P.x)*P.x = 1 - d*(-P.x)*P.x*P.y*P.y
      have := P.on
      unfold On at this
      grind
    rw [h] at this
    grind
/-- n times. -/
def mul : Nat → Pt d → Pt d
  | 0, _ => O
  | n + 1, P => add (mul n P) P
theorem mul_add (m n : Nat) (P : Pt d) : mul (m + n) P = add (mul m P) (mul n P) := by
  induction n with
  | zero => rw [Nat.add_zero, mul, add_O]
  | succ n ih => rw [← Nat.add_assoc, mul, ih, mul, add_assoc]
theorem mul_O (n : Nat) : mul n (O : Pt d) = O := by
  induction n with
  | zero => rfl
  | succ n ih => rw [mul, ih, O_add]
theorem mul_dist (n : Nat) (P Q : Pt d) : mul n (add P Q) = add (mul n P) (mul n Q) := by
  induction n with
  | zero => rw [mul, mul, mul, O_add]
  | succ n ih => rw [mul, mul, mul, ih, add_assoc, add_assoc, ← add_assoc (mul n Q), add_comm (mul n Q) P, add_assoc P]
theorem mul_mul (m n : Nat) (P : Pt d) : mul m (mul n P) = mul (m * n) P := by
  induction m with
  | zero => rw [Nat.zero_mul, mul, mul]
  | succ m ih => rw [mul, ih, Nat.succ_mul, mul_add]
theorem mul_swap (m n : Nat) (P : Pt d) : mul m (mul n P) = mul n (mul m P) := by rw [mul_mul, mul_mul, Nat.mul_comm]
end Pt


variable {d : Fin p}
/-- X over Z is the first coordinate of P on Montgomery's curve. -/
def Rep (X Z : Fin p) (P : Pt d) : Prop := X*(1 - P.y) = Z*(1 + P.y) ∧ (X ≠ 0 ∨ Z ≠ 0)
theorem rep_sum {X Z : Fin p} {P : Pt d} (h2 : (2 : Fin p) ≠ 0) (h : Rep X Z P) : X + Z ≠ 0 ∧ X - Z = P.y*(X + Z) := by
  obtain ⟨h1, hn⟩ := h
  have e : X - Z = P.y*(X + Z) := by grind
  refine ⟨fun h0 => ?_, e⟩
  rw [h0] at e
  have hx : X = -X := by grind
  have hz : Z = -Z := by grind
  rcases hn with hn | hn
  · exact hn (two_ne_of h2 hx)
  · exact hn (two_ne_of h2 hz)
theorem rep_scale {X Z : Fin p} {P : Pt d} (k : Fin p) (hk : k ≠ 0) (h : Rep X Z P) : Rep (k*X) (k*Z) P := by
  obtain ⟨h1, hn⟩ := h
  refine ⟨by grind, ?_⟩
  rcases hn with hn | hn
  · exact .inl (mul_ne hk hn)
  · exact .inr (mul_ne hk hn)
theorem sq_cancel_y {d y : Fin p} (hd : NoSq d) : 1 - d*y*y ≠ 0 := by
  intro h
  by_cases hy : y = 0
  · subst hy
    have : (1 : Fin p) = 0 := by grind
    exact zero_ne this.symm
  · have k := inv_c hy
    refine hd y⁻¹ ?_
    have : d*(y*y⁻¹)*(y*y⁻¹) = y⁻¹*y⁻¹ := by
      have : d*(y*y⁻¹)*(y*y⁻¹) = (d*y*y)*(y⁻¹*y⁻¹) := by grind
      rw [this]
      have : d*y*y = 1 := by grind
      rw [this]
      grind
    rw [k] at this
    grind
theorem one_sub_ne {d : Fin p} (hd : NoSq d) : 1 - d ≠ 0 := by
  intro h
  exact hd 1 (by grind)
theorem dbl_id {d x y : Fin p} (h : On d x y) : y*y*(1 - d)*((1 - d*x*x*y*y) - (y*y - x*x)) = (1 - y*y)*(1 - d*y*y)*((1 - d*x*x*y*y) + (y*y - x*x)) := by
  unfold On at h
  grind
theorem dbl_a {a d y : Fin p} (ha : a*(1 - d) = 1) : (1 - d)*(y*y + a*(1 - y*y)) = 1 - d*y*y := by grind
theorem dbl_forms (a X Z S D y : Fin p) (hS : S = X + Z) (hD : D = X - Z) (h : D = y*S) :
    (X+Z)*(X+Z)*((X-Z)*(X-Z)) = S*S*S*S*(y*y) ∧ ((X+Z)*(X+Z) - (X-Z)*(X-Z))*((X-Z)*(X-Z) + a*((X+Z)*(X+Z) - (X-Z)*(X-Z))) = S*S*S*S*((1 - y*y)*(y*y + a*(1 - y*y))) := by
  rw [← hS, ← hD, h]
  constructor <;> grind
theorem dbl_rep [g : Good d] {a X Z : Fin p} {P : Pt d} (ha : a*(1 - d) = 1) (h : Rep X Z P) :
    Rep ((X+Z)*(X+Z)*((X-Z)*(X-Z))) (((X+Z)*(X+Z) - (X-Z)*(X-Z))*((X-Z)*(X-Z) + a*((X+Z)*(X+Z) - (X-Z)*(X-Z)))) (Pt.add P P) := by
  obtain ⟨hS, hD⟩ := rep_sum g.two h
  obtain ⟨e1, e2⟩ := dbl_forms a X Z (X+Z) (X-Z) P.y rfl rfl hD
  rw [e1, e2]
  have S4 := mul_ne (mul_ne (mul_ne hS hS) hS) hS
  generalize (X+Z)*(X+Z)*(X+Z)*(X+Z) = s at *
  have m := den_m g.sq g.two P.on P.on
  have q := one_sub_ne g.sq
  have eY : (Pt.add P P).y * (1 - d*P.x*P.x*P.y*P.y) = P.y*P.y - P.x*P.x := addy_eq g.sq g.two P.on P.on
  have id := dbl_id P.on
  have hA := dbl_a (y := P.y) ha
  constructor
  · refine cancel (mul_ne q m) ?_
    generalize (Pt.add P P).y = Y at *
    generalize P.x = x at *
    generalize P.y = y at *
    have l : (1 - d)*(1 - d*x*x*y*y)*(s*(y*y)*(1 - Y)) = s*(y*y*(1 - d)*((1 - d*x*x*y*y) - Y*(1 - d*x*x*y*y))) := by grind
    have r : (1 - d)*(1 - d*x*x*y*y)*(s*((1 - y*y)*(y*y + a*(1 - y*y)))*(1 + Y)) = s*((1 - y*y)*((1 - d)*(y*y + a*(1 - y*y)))*((1 - d*x*x*y*y) + Y*(1 - d*x*x*y*y))) := by grind
    rw [l, r, eY, hA, id]
  · by_cases hy : P.y = 0
    · right
      rw [hy]
      refine mul_ne S4 ?_
      intro h0
      have : a = 0 := by grind
      rw [this] at ha
      exact (zero_ne (p := p)) (by grind)
    · left
      exact mul_ne S4 (mul_ne hy hy)
theorem sum_id {d x1 y1 x2 y2 : Fin p} (h1 : On d x1 y1) (h2 : On d x2 y2) :
    ((1 - d*x1*x2*y1*y2) + (y1*y2 - x1*x2))*((1 + d*x1*x2*y1*y2) + (y1*y2 + x1*x2))*((y1 - y2)*(y1 - y2)) = ((1 - d*x1*x2*y1*y2) - (y1*y2 - x1*x2))*((1 + d*x1*x2*y1*y2) - (y1*y2 + x1*x2))*((y1 + y2)*(y1 + y2)) := by
  unfold On at *
  grind
theorem neg_y (P : Pt d) : (Pt.neg P).y = P.y := rfl
theorem neg_x (P : Pt d) : (Pt.neg P).x = -P.x := rfl
theorem sum_forms {X1 Z1 X2 Z2 S1 S2 y1 y2 : Fin p} (h1 : X1 + Z1 = S1) (h1' : X1 - Z1 = y1*S1) (h2 : X2 + Z2 = S2) (h2' : X2 - Z2 = y2*S2) :
    2*(X1*X2 - Z1*Z2) = S1*S2*(y1 + y2) ∧ 2*(X1*Z2 - Z1*X2) = S1*S2*(y1 - y2) := by
  subst h1 h2
  constructor
  · have : 2*(X1*X2 - Z1*Z2) = (X1 + Z1)*(X2 - Z2) + (X1 - Z1)*(X2 + Z2) := by grind
    rw [this, h1', h2']
    grind
  · have : 2*(X1*Z2 - Z1*X2) = (X1 - Z1)*(X2 + Z2) - (X1 + Z1)*(X2 - Z2) := by grind
    rw [this, h1', h2']
    grind
theorem sum_rep [g : Good d] {u X1 Z1 X2 Z2 : Fin p} {P Q : Pt d} (hu : u ≠ 0) (hr : u*(1 - (Pt.add P (Pt.neg Q)).y) = 1 + (Pt.add P (Pt.neg Q)).y) (h1 : Rep X1 Z1 P) (h2 : Rep X2 Z2 Q) :
    Rep ((X1*X2 - Z1*Z2)*(X1*X2 - Z1*Z2)) (u*((X1*Z2 - Z1*X2)*(X1*Z2 - Z1*X2))) (Pt.add P Q) := by
  obtain ⟨hS1, hD1⟩ := rep_sum g.two h1
  obtain ⟨hS2, hD2⟩ := rep_sum g.two h2
  obtain ⟨f1, f2⟩ := sum_forms rfl hD1 rfl hD2
  have eY : (Pt.add P Q).y * (1 - d*P.x*Q.x*P.y*Q.y) = P.y*Q.y - P.x*Q.x := addy_eq g.sq g.two P.on Q.on
  have eW : (Pt.add P (Pt.neg Q)).y * (1 - d*P.x*(-Q.x)*P.y*Q.y) = P.y*Q.y - P.x*(-Q.x) := addy_eq g.sq g.two P.on (Pt.neg Q).on
  have m := den_m g.sq g.two P.on Q.on
  have n := den_p g.sq g.two P.on Q.on
  have oP := P.on
  have oQ := Q.on
  have id := sum_id P.on Q.on
  generalize (Pt.add P (Pt.neg Q)).y = W at *
  have eW' : W * (1 + d*P.x*Q.x*P.y*Q.y) = P.y*Q.y + P.x*Q.x := by
    have a1 : 1 - d*P.x*(-Q.x)*P.y*Q.y = 1 + d*P.x*Q.x*P.y*Q.y := by grind
    have a2 : P.y*Q.y - P.x*(-Q.x) = P.y*Q.y + P.x*Q.x := by grind
    rw [← a1, ← a2]
    exact eW
  have hW : 1 - W ≠ 0 := by
    intro h0
    have : W = 1 := by grind
    rw [this] at hr
    have h22 : (2 : Fin p) = 0 := by grind
    exact g.two h22
  have SS := mul_ne hS1 hS2
  generalize (X1 + Z1)*(X2 + Z2) = S at *
  have four : (2 : Fin p)*2 ≠ 0 := mul_ne g.two g.two
  have k1 : (2*2)*((X1*X2 - Z1*Z2)*(X1*X2 - Z1*Z2)) = (S*S)*((P.y + Q.y)*(P.y + Q.y)) := by
    have : (2*2)*((X1*X2 - Z1*Z2)*(X1*X2 - Z1*Z2)) = (2*(X1*X2 - Z1*Z2))*(2*(X1*X2 - Z1*Z2)) := by grind
    rw [this, f1]
    grind
  have k2 : (2*2)*(u*((X1*Z2 - Z1*X2)*(X1*Z2 - Z1*X2))) = u*((S*S)*((P.y - Q.y)*(P.y - Q.y))) := by
    have : (2*2)*(u*((X1*Z2 - Z1*X2)*(X1*Z2 - Z1*X2))) = u*((2*(X1*Z2 - Z1*X2))*(2*(X1*Z2 - Z1*X2))) := by grind
    rw [this, f2]
    grind
  generalize (X1*X2 - Z1*Z2)*(X1*X2 - Z1*Z2) = A at *
  generalize u*((X1*Z2 - Z1*X2)*(X1*Z2 - Z1*X2)) = B at *
  have idY : (1 + (Pt.add P Q).y)*(1 + W)*((P.y - Q.y)*(P.y - Q.y)) = (1 - (Pt.add P Q).y)*(1 - W)*((P.y + Q.y)*(P.y + Q.y)) := by
    rw [← eY, ← eW'] at id
    generalize (Pt.add P Q).y = Y at *
    refine cancel (mul_ne m n) ?_
    generalize (1 - d*P.x*Q.x*P.y*Q.y) = M at *
    generalize (1 + d*P.x*Q.x*P.y*Q.y) = N at *
    generalize P.y = y1 at *
    generalize Q.y = y2 at *
    clear k1 k2 f1 f2 hD1 hD2 oP oQ eY eW eW' hr
    grind
  constructor
  · refine cancel (mul_ne four hW) ?_
    have l : 2*2*(1 - W)*(A*(1 - (Pt.add P Q).y)) = (2*2*A)*((1 - W)*(1 - (Pt.add P Q).y)) := by grind
    have r : 2*2*(1 - W)*(B*(1 + (Pt.add P Q).y)) = (2*2*B)*((1 - W)*(1 + (Pt.add P Q).y)) := by grind
    rw [l, r, k1, k2]
    have r2 : u*(S*S*((P.y - Q.y)*(P.y - Q.y)))*((1 - W)*(1 + (Pt.add P Q).y)) = (u*(1 - W))*(S*S)*((P.y - Q.y)*(P.y - Q.y))*(1 + (Pt.add P Q).y) := by grind
    rw [r2, hr]
    have l2 : S*S*((P.y + Q.y)*(P.y + Q.y))*((1 - W)*(1 - (Pt.add P Q).y)) = (S*S)*((1 - (Pt.add P Q).y)*(1 - W)*((P.y + Q.y)*(P.y + Q.y))) := by grind
    rw [l2, ← idY]
    grind
  · by_cases hA : A = 0
    · right
      intro hB
      rw [hA] at k1
      rw [hB] at k2
      have s0 : (S*S) ≠ 0 := mul_ne SS SS
      have q1 : (P.y + Q.y) = 0 := by
        refine Classical.byContradiction fun hne => ?_
        exact mul_ne s0 (mul_ne hne hne) (by rw [← k1]; grind)
      have q2 : (P.y - Q.y) = 0 := by
        refine Classical.byContradiction fun hne => ?_
        exact mul_ne hu (mul_ne s0 (mul_ne hne hne)) (by rw [← k2]; grind)
      have y1 : P.y = 0 := by
        have : P.y = -P.y := by grind
        exact two_ne_of g.two this
      have y2 : Q.y = 0 := by rw [y1] at q1; grind
      unfold On at oP oQ
      rw [y1] at oP eW'
      rw [y2] at oQ eW'
      have w2 : W*W = 1 := by
        have e0 : W = P.x*Q.x := by grind
        have e1 : P.x*P.x = 1 := by grind
        have e2 : Q.x*Q.x = 1 := by grind
        have : W*W = (P.x*P.x)*(Q.x*Q.x) := by rw [e0]; grind
        rw [this, e1, e2]
        grind
      have w3 : 1 + W = 0 := by
        refine Classical.byContradiction fun hne => ?_
        exact mul_ne hW hne (by grind)
      rw [w3] at hr
      exact mul_ne hu hW hr
    · exact .inl hA
/-- Twice, on Montgomery's curve: X and Z. -/
def dX (X Z : Fin p) : Fin p := (X+Z)*(X+Z)*((X-Z)*(X-Z))
def dZ (a X Z : Fin p) : Fin p := ((X+Z)*(X+Z) - (X-Z)*(X-Z))*((X-Z)*(X-Z) + a*((X+Z)*(X+Z) - (X-Z)*(X-Z)))
/-- The sum of two whose difference is u. -/
def sX (X1 Z1 X2 Z2 : Fin p) : Fin p := (X1*X2 - Z1*Z2)*(X1*X2 - Z1*Z2)
def sZ (u X1 Z1 X2 Z2 : Fin p) : Fin p := u*((X1*Z2 - Z1*X2)*(X1*Z2 - Z1*X2))
theorem neg_add_y [g : Good d] (P Q : Pt d) : Pt.neg (Pt.add P Q) = Pt.add (Pt.neg P) (Pt.neg Q) := by
  refine Pt.ext' ?_ ?_
  · show -(addx d P.x P.y Q.x Q.y) = addx d (-P.x) P.y (-Q.x) Q.y
    unfold addx
    rw [show 1 + d*(-P.x)*(-Q.x)*P.y*Q.y = 1 + d*P.x*Q.x*P.y*Q.y by grind]
    grind
  · show addy d P.x P.y Q.x Q.y = addy d (-P.x) P.y (-Q.x) Q.y
    unfold addy
    rw [show 1 - d*(-P.x)*(-Q.x)*P.y*Q.y = 1 - d*P.x*Q.x*P.y*Q.y by grind, show P.y*Q.y - (-P.x)*(-Q.x) = P.y*Q.y - P.x*Q.x by grind]
theorem next_diff [g : Good d] (n : Nat) (P : Pt d) : Pt.add (Pt.mul n P) (Pt.neg (Pt.mul (n + 1) P)) = Pt.neg P := by
  rw [Pt.mul, neg_add_y, ← Pt.add_assoc, Pt.add_comm (Pt.mul n P) (Pt.neg (Pt.mul n P)), Pt.neg_add, Pt.O_add]
/-- What the ladder needs of u: X over Z stands for n times a point of u. -/
structure Model (a u : Fin p) where
  R : Nat → Fin p → Fin p → Prop
  zero : R 0 1 0
  one : R 1 u 1
  some : ∀ n, ∃ X Z, R n X Z
  dbl : ∀ {n X Z}, R n X Z → R (2*n) (dX X Z) (dZ a X Z)
  sum : ∀ {n X1 Z1 X2 Z2}, R n X1 Z1 → R (n + 1) X2 Z2 → R (2*n + 1) (sX X1 Z1 X2 Z2) (sZ u X1 Z1 X2 Z2)
  not0 : ∀ {n X Z}, R n X Z → X ≠ 0 ∨ Z ≠ 0
  uniq : ∀ {n X Z X' Z'}, R n X Z → R n X' Z' → X*Z' = X'*Z
  scale : ∀ {n X Z k}, k ≠ 0 → R n X Z → R n (k*X) (k*Z)
  even : ∀ {n k X Z X' Z'}, R n X Z → X*Z = 0 → R (2*k*n) X' Z' → Z' = 0
  gcd : ∀ {m n X Z X' Z'}, R m X Z → Z = 0 → R n X' Z' → Z' = 0 → ∃ X'' Z'', R (Nat.gcd m n) X'' Z'' ∧ Z'' = 0
/-- The two signs: the curve itself, and its twist. -/
theorem rep_uniq [g : Good d] {X Z X' Z' : Fin p} {P : Pt d} (h : Rep X Z P) (h' : Rep X' Z' P) : X*Z' = X'*Z := by
  obtain ⟨hs, hd'⟩ := rep_sum g.two h
  obtain ⟨hs', hd''⟩ := rep_sum g.two h'
  generalize P.y = y at *
  have e1 : 2*X = (1 + y)*(X + Z) := by grind
  have e2 : 2*Z = (1 - y)*(X + Z) := by grind
  have e3 : 2*X' = (1 + y)*(X' + Z') := by grind
  have e4 : 2*Z' = (1 - y)*(X' + Z') := by grind
  refine cancel (mul_ne g.two g.two) ?_
  have l : 2*2*(X*Z') = (2*X)*(2*Z') := by grind
  have r : 2*2*(X'*Z) = (2*X')*(2*Z) := by grind
  rw [l, r, e1, e2, e3, e4]
  generalize X + Z = s
  generalize X' + Z' = s'
  grind
theorem rep_some [g : Good d] (P : Pt d) : ∃ X Z, Rep X Z P := by
  refine ⟨1 + P.y, 1 - P.y, by grind, ?_⟩
  by_cases h : 1 + P.y = 0
  · right
    intro h0
    have : (2 : Fin p) = 0 := by grind
    exact g.two this
  · exact .inl h
theorem rep_O [g : Good d] {X Z : Fin p} (h : Rep X Z (Pt.O : Pt d)) : Z = 0 := by
  have h1 := h.1
  have e : (Pt.O : Pt d).y = 1 := rfl
  rw [e] at h1
  have : Z*2 = 0 := by grind
  refine Classical.byContradiction fun hz => mul_ne hz g.two this
theorem y_one [g : Good d] {P : Pt d} (h : P.y = 1) : P = Pt.O := by
  refine Pt.ext' ?_ h
  have o := P.on
  unfold On at o
  rw [h] at o
  show P.x = 0
  refine Classical.byContradiction fun hx => mul_ne (mul_ne hx hx) (one_sub_ne g.sq) (by grind)
theorem y_mone [g : Good d] {P : Pt d} (h : P.y = -1) : Pt.add P P = Pt.O := by
  have hx : P.x = 0 := by
    have o := P.on
    unfold On at o
    rw [h] at o
    refine Classical.byContradiction fun hx => mul_ne (mul_ne hx hx) (one_sub_ne g.sq) (by grind)
  have e := addy_eq g.sq g.two P.on P.on
  refine y_one ?_
  show addy d P.x P.y P.x P.y = 1
  rw [hx, h] at e ⊢
  grind
theorem rep_zero [g : Good d] {X Z : Fin p} {P : Pt d} (h : Rep X Z P) (hz : Z = 0) : P = Pt.O := by
  obtain ⟨h1, hn⟩ := h
  subst hz
  have hX : X ≠ 0 := by
    rcases hn with hn | hn
    · exact hn
    · exact absurd rfl hn
  refine y_one ?_
  refine Classical.byContradiction fun hy => ?_
  have : 1 - P.y ≠ 0 := fun h0 => hy (by grind)
  exact mul_ne hX this (by grind)
theorem rep_xzero [g : Good d] {X Z : Fin p} {P : Pt d} (h : Rep X Z P) (hx : X = 0) : Pt.add P P = Pt.O := by
  obtain ⟨h1, hn⟩ := h
  subst hx
  have hZ : Z ≠ 0 := by
    rcases hn with hn | hn
    · exact absurd rfl hn
    · exact hn
  refine y_mone ?_
  refine Classical.byContradiction fun hy => ?_
  have : 1 + P.y ≠ 0 := fun h0 => hy (by grind)
  exact mul_ne hZ this (by grind)
theorem mul_two [g : Good d] (n : Nat) (P : Pt d) : Pt.mul (2*n) P = Pt.add (Pt.mul n P) (Pt.mul n P) := by
  rw [Nat.two_mul, Pt.mul_add]
theorem mul_even [g : Good d] (k n : Nat) (P : Pt d) (h : Pt.add (Pt.mul n P) (Pt.mul n P) = Pt.O) : Pt.mul (2*k*n) P = Pt.O := by
  rw [show 2*k*n = k*(2*n) by rw [Nat.mul_comm 2 k, Nat.mul_assoc], ← Pt.mul_mul, mul_two, h, Pt.mul_O]
theorem mul_sub_O [g : Good d] (m n : Nat) (P : Pt d) (h1 : Pt.mul m P = Pt.O) (h2 : Pt.mul (m + n) P = Pt.O) : Pt.mul n P = Pt.O := by
  rw [Pt.mul_add, h1, Pt.O_add] at h2
  exact h2
theorem mul_gcd [g : Good d] (P : Pt d) (m n : Nat) : Pt.mul m P = Pt.O → Pt.mul n P = Pt.O → Pt.mul (Nat.gcd m n) P = Pt.O := by
  induction m, n using Nat.gcd.induction with
  | H0 n => intro _ h; rwa [Nat.gcd_zero_left]
  | H1 m n hm ih =>
    intro h1 h2
    rw [Nat.gcd_rec]
    refine ih ?_ h1
    refine mul_sub_O (n / m * m) (n % m) P ?_ (by rw [Nat.div_add_mod']; exact h2)
    rw [← Pt.mul_mul, h1, Pt.mul_O]
/-- A point of the curve. -/
def model1 [g : Good d] {a u : Fin p} (ha : a*(1 - d) = 1) (hu : u ≠ 0) (P : Pt d) (hP : u*(1 - P.y) = 1 + P.y) : Model a u where
  R n X Z := Rep X Z (Pt.mul n P)
  zero := ⟨by show (1 : Fin p)*(1 - 1) = 0*(1 + 1); grind, .inl (fun h => zero_ne h.symm)⟩
  one := ⟨by rw [Pt.mul, Pt.mul, Pt.O_add, hP]; grind, .inl hu⟩
  some n := rep_some _
  dbl h := by rw [mul_two]; exact dbl_rep ha h
  sum {n X1 Z1 X2 Z2} h1 h2 := by
    rw [show 2*n + 1 = n + (n + 1) by omega, Pt.mul_add]
    exact sum_rep hu (by rw [next_diff]; exact hP) h1 h2
  not0 h := h.2
  uniq := rep_uniq
  scale hk h := rep_scale _ hk h
  even {n k X Z X' Z'} h h0 h' := by
    rw [mul_even k n P] at h'
    · exact rep_O h'
    · by_cases hz : Z = 0
      · rw [rep_zero h hz, Pt.O_add]
      · exact rep_xzero h (Classical.byContradiction fun hx => mul_ne hx hz h0)
  gcd h hz h' hz' := by
    have e := mul_gcd P _ _ (rep_zero h hz) (rep_zero h' hz')
    obtain ⟨X, Z, hr⟩ := rep_some (Pt.mul (Nat.gcd _ _) P)
    exact ⟨X, Z, hr, rep_O (by rw [e] at hr; exact hr)⟩
theorem twist_forms (a u X1 Z1 X2 Z2 : Fin p) : dX (-X1) Z1 = (-1)*(-(dX X1 Z1)) ∧ dZ (1 - a) (-X1) Z1 = (-1)*(dZ a X1 Z1) ∧ sX (-X1) Z1 (-X2) Z2 = (-1)*(-(sX X1 Z1 X2 Z2)) ∧ sZ (-u) (-X1) Z1 (-X2) Z2 = (-1)*(sZ u X1 Z1 X2 Z2) := by
  unfold dX dZ sX sZ
  refine ⟨?_, ?_, ?_, ?_⟩ <;> grind
theorem neg_one_ne : (-1 : Fin p) ≠ 0 := by
  intro h
  exact (zero_ne (p := p)) (by grind)
theorem rep_unneg {X Z : Fin p} {P : Pt d} (h : Rep ((-1)*(-X)) ((-1)*Z) P) : Rep (-X) Z P := by
  have := rep_scale (-1) neg_one_ne h
  rwa [show (-1 : Fin p)*((-1)*(-X)) = -X by grind, show (-1 : Fin p)*((-1)*Z) = Z by grind] at this
/-- A point of the twist. -/
def model2 [g : Good d] {a u : Fin p} (ha : (1 - a)*(1 - d) = 1) (hu : u ≠ 0) (P : Pt d) (hP : (-u)*(1 - P.y) = 1 + P.y) : Model a u where
  R n X Z := Rep (-X) Z (Pt.mul n P)
  zero := ⟨by show (-1 : Fin p)*(1 - 1) = 0*(1 + 1); grind, .inl neg_one_ne⟩
  one := ⟨by rw [Pt.mul, Pt.mul, Pt.O_add, hP]; grind, .inl (fun h => hu (by grind))⟩
  some n := by
    obtain ⟨X, Z, h⟩ := rep_some (Pt.mul n P)
    exact ⟨-X, Z, by rwa [show - -X = X by grind]⟩
  dbl {n X Z} h := by
    have := dbl_rep ha h
    rw [mul_two]
    obtain ⟨f1, f2, _, _⟩ := twist_forms a u X Z X Z
    have e : Rep (dX (-X) Z) (dZ (1 - a) (-X) Z) (Pt.add (Pt.mul n P) (Pt.mul n P)) := this
    rw [f1, f2] at e
    exact rep_unneg e
  sum {n X1 Z1 X2 Z2} h1 h2 := by
    rw [show 2*n + 1 = n + (n + 1) by omega, Pt.mul_add]
    have hu' : -u ≠ 0 := fun h => hu (by grind)
    have e : Rep (sX (-X1) Z1 (-X2) Z2) (sZ (-u) (-X1) Z1 (-X2) Z2) (Pt.add (Pt.mul n P) (Pt.mul (n + 1) P)) := sum_rep hu' (by rw [next_diff]; exact hP) h1 h2
    obtain ⟨_, _, f3, f4⟩ := twist_forms a u X1 Z1 X2 Z2
    rw [f3, f4] at e
    exact rep_unneg e
  not0 h := by
    rcases h.2 with h | h
    · exact .inl (fun h0 => h (by rw [h0]; grind))
    · exact .inr h
  uniq h h' := by
    have := rep_uniq h h'
    grind
  scale {n X Z k} hk h := by
    have := rep_scale k hk h
    rwa [show k*(-X) = -(k*X) by grind] at this
  even {n k X Z X' Z'} h h0 h' := by
    rw [mul_even k n P] at h'
    · exact rep_O h'
    · by_cases hz : Z = 0
      · rw [rep_zero h hz, Pt.O_add]
      · exact rep_xzero h (by
          have : X = 0 := Classical.byContradiction fun hx => mul_ne hx hz h0
          rw [this]; grind)
  gcd h hz h' hz' := by
    have e := mul_gcd P _ _ (rep_zero h hz) (rep_zero h' hz')
    obtain ⟨X, Z, hr⟩ := rep_some (Pt.mul (Nat.gcd _ _) P)
    exact ⟨-X, Z, by rwa [show - -X = X by grind], rep_O (by rw [e] at hr; exact hr)⟩
/-- Each number is a square, or d times it is. -/
def Half (d : Fin p) : Prop := ∀ t : Fin p, t ≠ 0 → (∃ s, s*s = t) ∨ (∃ s, s*s = t*d)
theorem half0 {d : Fin p} (h : Half d) (t : Fin p) : (∃ s, s*s = t) ∨ (∃ s, s*s = t*d) := by
  by_cases ht : t = 0
  · exact .inl ⟨0, by rw [ht]; grind⟩
  · exact h t ht
theorem on_of {d y s : Fin p} (hd : NoSq d) (h : s*s = (1 - y*y) * (1 - d*y*y)⁻¹) : On d s y := by
  have k := inv_c (sq_cancel_y (y := y) hd)
  have h2 : s*s*(1 - d*y*y) = 1 - y*y := by
    rw [h]
    generalize (1 - d*y*y) = q at *
    grind
  unfold On
  grind
theorem on_twist {d e y z s : Fin p} (hd : NoSq d) (hde : d*e = 1) (hyz : y*z = 1) (h : s*s = (1 - y*y) * (1 - d*y*y)⁻¹ * d) : On e s z := by
  have hq := sq_cancel_y (y := y) hd
  have k := inv_c hq
  have h2 : s*s*(1 - d*y*y) = (1 - y*y)*d := by
    rw [h]
    generalize (1 - d*y*y) = q at *
    grind
  have hy : y ≠ 0 := by intro h0; rw [h0] at hyz; exact (zero_ne (p := p)) (by grind)
  unfold On
  refine cancel (mul_ne hq (mul_ne hy hy)) ?_
  have l : (1 - d*y*y)*(y*y)*(s*s + z*z) = (s*s*(1 - d*y*y))*(y*y) + (1 - d*y*y)*((y*z)*(y*z)) := by grind
  have r : (1 - d*y*y)*(y*y)*(1 + e*(s*s)*(z*z)) = (1 - d*y*y)*(y*y) + e*(s*s*(1 - d*y*y))*((y*z)*(y*z)) := by grind
  rw [l, r, h2, hyz]
  have : e*((1 - y*y)*d) = (d*e)*(1 - y*y) := by grind
  rw [this, hde]
  grind
theorem twist_good {d e : Fin p} (hd : NoSq d) (hde : d*e = 1) : NoSq e := by
  intro t ht
  have h0 : t ≠ 0 := by
    intro h0
    rw [h0] at ht
    have : e = 0 := by grind
    rw [this] at hde
    exact (zero_ne (p := p)) (by grind)
  have k := inv_c h0
  refine hd t⁻¹ ?_
  have : d*(t*t)*(t⁻¹*t⁻¹) = t⁻¹*t⁻¹ := by rw [ht, hde]; grind
  rw [← this]
  have : d*(t*t)*(t⁻¹*t⁻¹) = d*(t*t⁻¹)*(t*t⁻¹) := by grind
  rw [this, k]
  grind
theorem on_zero {e : Fin p} : On e 1 0 := by unfold On; grind
/-- A multiple's multiples. -/
def Comp {a u : Fin p} (M : Model a u) : Prop := ∀ n x, x ≠ 0 → M.R n x 1 → ∃ M' : Model a x, ∀ m X Z, M'.R m X Z → M.R (m*n) X Z
theorem comp1 [g : Good d] {a u : Fin p} (ha : a*(1 - d) = 1) (hu : u ≠ 0) (P : Pt d) (hP : u*(1 - P.y) = 1 + P.y) : Comp (model1 ha hu P hP) := by
  intro n x hx h
  have hb : Rep x 1 (Pt.mul n P) := h
  have hy : x*(1 - (Pt.mul n P).y) = 1 + (Pt.mul n P).y := by
    have := hb.1
    grind
  refine ⟨model1 ha hx (Pt.mul n P) hy, fun m X Z h => ?_⟩
  have h' : Rep X Z (Pt.mul m (Pt.mul n P)) := h
  rw [Pt.mul_mul] at h'
  exact h'
theorem comp2 [g : Good d] {a u : Fin p} (ha : (1 - a)*(1 - d) = 1) (hu : u ≠ 0) (P : Pt d) (hP : (-u)*(1 - P.y) = 1 + P.y) : Comp (model2 ha hu P hP) := by
  intro n x hx h
  have hb : Rep (-x) 1 (Pt.mul n P) := h
  have hy : (-x)*(1 - (Pt.mul n P).y) = 1 + (Pt.mul n P).y := by
    have := hb.1
    grind
  refine ⟨model2 ha hx (Pt.mul n P) hy, fun m X Z h => ?_⟩
  have h' : Rep (-X) Z (Pt.mul m (Pt.mul n P)) := h
  rw [Pt.mul_mul] at h'
  exact h'
/-- Each u but 0 has a point, here or on the twist. -/
theorem model {d a u : Fin p} (hd : NoSq d) (h2 : (2 : Fin p) ≠ 0) (hh : Half d) (ha : a*(1 - d) = 1) (hu : u ≠ 0) : ∃ M : Model a u, Comp M := by
  have hd0 : d ≠ 0 := fun h => hd 0 (by rw [h]; grind)
  have hde := inv_c hd0
  have he := twist_good hd hde
  haveI gd : Good d := ⟨hd, h2⟩
  haveI ge : Good d⁻¹ := ⟨he, h2⟩
  have ha' : (1 - a)*(1 - d⁻¹) = 1 := by
    refine cancel hd0 ?_
    have : d*((1 - a)*(1 - d⁻¹)) = (1 - a)*(d - d*d⁻¹) := by grind
    rw [this, hde]
    grind
  by_cases hm : u + 1 = 0
  · suffices hb : _ from ⟨model2 (d := d⁻¹) ha' hu ⟨1, 0, on_zero⟩ hb, comp2 ha' hu ⟨1, 0, on_zero⟩ hb⟩
    show (-u)*(1 - 0) = 1 + 0
    grind
  · have k := inv_c hm
    obtain ⟨y, hy⟩ : ∃ y, y = (u - 1)*(u + 1)⁻¹ := ⟨_, rfl⟩
    have hy1 : y*(u + 1) = u - 1 := by
      rw [hy]
      have : (u - 1)*(u + 1)⁻¹*(u + 1) = (u - 1)*((u + 1)*(u + 1)⁻¹) := by grind
      rw [this, k]
      grind
    rcases half0 hh ((1 - y*y) * (1 - d*y*y)⁻¹) with ⟨s, hs⟩ | ⟨s, hs⟩
    · suffices hb : _ from ⟨model1 (d := d) ha hu ⟨s, y, on_of hd hs⟩ hb, comp1 ha hu ⟨s, y, on_of hd hs⟩ hb⟩
      show u*(1 - y) = 1 + y
      grind
    · by_cases h0 : y = 0
      · suffices hb : _ from ⟨model1 (d := d) ha hu ⟨1, 0, on_zero⟩ hb, comp1 ha hu ⟨1, 0, on_zero⟩ hb⟩
        show u*(1 - 0) = 1 + 0
        rw [h0] at hy1
        grind
      · have kz := inv_c h0
        suffices hb : _ from ⟨model2 (d := d⁻¹) ha' hu ⟨s, y⁻¹, on_twist hd hde kz hs⟩ hb, comp2 ha' hu ⟨s, y⁻¹, on_twist hd hde kz hs⟩ hb⟩
        show (-u)*(1 - y⁻¹) = 1 + y⁻¹
        refine cancel h0 ?_
        have l : y*((-u)*(1 - y⁻¹)) = (-u)*(y - y*y⁻¹) := by grind
        have r : y*(1 + y⁻¹) = y + y*y⁻¹ := by grind
        rw [l, r, kz]
        grind
/-- One step of the ladder. -/
def stp (a u : Fin p) (s : Fin p × Fin p × Fin p × Fin p) (b : Bool) : Fin p × Fin p × Fin p × Fin p :=
  if b then (sX s.1 s.2.1 s.2.2.1 s.2.2.2, sZ u s.1 s.2.1 s.2.2.1 s.2.2.2, dX s.2.2.1 s.2.2.2, dZ a s.2.2.1 s.2.2.2)
  else (dX s.1 s.2.1, dZ a s.1 s.2.1, sX s.1 s.2.1 s.2.2.1 s.2.2.2, sZ u s.1 s.2.1 s.2.2.1 s.2.2.2)
def num (l : List Bool) : Nat := l.foldl (fun m b => 2*m + (if b then 1 else 0)) 0
def lad (a u : Fin p) (l : List Bool) : Fin p × Fin p × Fin p × Fin p := l.foldl (stp a u) (1, 0, u, 1)
/-- The multiple's first coordinate. -/
def mulx (a u : Fin p) (l : List Bool) : Fin p := (lad a u l).1 * ((lad a u l).2.1)⁻¹
theorem lad_inv {a u : Fin p} (M : Model a u) (l : List Bool) : M.R (num l) (lad a u l).1 (lad a u l).2.1 ∧ M.R (num l + 1) (lad a u l).2.2.1 (lad a u l).2.2.2 := by
  unfold num lad
  have : ∀ (l : List Bool) (m : Nat) (s : Fin p × Fin p × Fin p × Fin p), M.R m s.1 s.2.1 → M.R (m + 1) s.2.2.1 s.2.2.2 →
      M.R (l.foldl (fun m b => 2*m + (if b then 1 else 0)) m) (l.foldl (stp a u) s).1 (l.foldl (stp a u) s).2.1 ∧ M.R (l.foldl (fun m b => 2*m + (if b then 1 else 0)) m + 1) (l.foldl (stp a u) s).2.2.1 (l.foldl (stp a u) s).2.2.2 := by
    intro l
    induction l with
    | nil => intro m s h1 h2; exact ⟨h1, h2⟩
    | cons b l ih =>
      intro m s h1 h2
      simp only [List.foldl_cons]
      cases b with
      | true =>
        refine ih (2*m + 1) _ (M.sum h1 h2) ?_
        have := M.dbl h2
        rwa [show 2*(m + 1) = 2*m + 1 + 1 by omega] at this
      | false =>
        refine ih (2*m) _ (M.dbl h1) ?_
        exact M.sum h1 h2
  exact this l 0 (1, 0, u, 1) M.zero (by rw [Nat.zero_add]; exact M.one)
theorem inv_zero' : (0 : Fin p)⁻¹ = 0 := inv_0
theorem val_eq {a u : Fin p} (M : Model a u) {n : Nat} {X Z X' Z' : Fin p} (h : M.R n X Z) (h' : M.R n X' Z') : X*Z⁻¹ = X'*Z'⁻¹ := by
  have e := M.uniq h h'
  by_cases hz : Z = 0
  · have hx : X ≠ 0 := by
      rcases M.not0 h with h | h
      · exact h
      · exact absurd hz h
    have hz' : Z' = 0 := Classical.byContradiction fun h0 => mul_ne hx h0 (by rw [e, hz]; grind)
    rw [hz, hz', inv_zero']
    grind
  · by_cases hz' : Z' = 0
    · have hx' : X' ≠ 0 := by
        rcases M.not0 h' with h1 | h1
        · exact h1
        · exact absurd hz' h1
      exact absurd (by rw [← e, hz']; grind) (mul_ne hx' hz)
    · have k := inv_c hz
      have k' := inv_c hz'
      refine cancel (mul_ne hz hz') ?_
      have l : Z*Z'*(X*Z⁻¹) = X*Z'*(Z*Z⁻¹) := by grind
      have r : Z*Z'*(X'*Z'⁻¹) = X'*Z*(Z'*Z'⁻¹) := by grind
      rw [l, r, k, k', e]
theorem mulx_val {a u : Fin p} (M : Model a u) (l : List Bool) {X Z : Fin p} (h : M.R (num l) X Z) : mulx a u l = X*Z⁻¹ := val_eq M (lad_inv M l).1 h
theorem stp_zero (a u : Fin p) (b : Bool) (x z : Fin p) : (stp a u (0, 0, x, z) b).1 = 0 ∧ (stp a u (0, 0, x, z) b).2.1 = 0 := by
  cases b <;> simp only [stp, dX, dZ, sX, sZ] <;> constructor <;> simp <;> grind
theorem lad_zero (a u : Fin p) (l : List Bool) (s : Fin p × Fin p × Fin p × Fin p) (h1 : s.1 = 0) (h2 : s.2.1 = 0) : (l.foldl (stp a u) s).1 = 0 ∧ (l.foldl (stp a u) s).2.1 = 0 := by
  induction l generalizing s with
  | nil => exact ⟨h1, h2⟩
  | cons b l ih =>
    obtain ⟨p, q, x, z⟩ := s
    simp only at h1 h2
    subst h1 h2
    exact ih _ (stp_zero a u b x z).1 (stp_zero a u b x z).2
/-- Of 0 there comes 0, if the highest bit is in. -/
theorem mulx_zero (a : Fin p) (l : List Bool) : mulx a 0 (true :: l) = 0 := by
  have h := lad_zero a 0 l (stp a 0 (1, 0, 0, 1) true) (by simp only [stp, sX]; simp; grind) (by simp only [stp, sZ]; simp; grind)
  unfold mulx lad
  rw [List.foldl_cons, h.1, h.2]
  grind
theorem val_zero {a u : Fin p} (M : Model a u) {n : Nat} {X Z : Fin p} (_h : M.R n X Z) (h0 : X*Z⁻¹ = 0) : X*Z = 0 := by
  by_cases hz : Z = 0
  · rw [hz]; grind
  · have k := inv_c hz
    have : X*Z = X*Z⁻¹*(Z*Z) := by
      have : X*Z⁻¹*(Z*Z) = X*Z*(Z*Z⁻¹) := by grind
      rw [this, k]; grind
    rw [this, h0]; grind
/-- Two secrets, in whatever order. -/
theorem mulx_swap {a u : Fin p} (hm : ∀ x : Fin p, x ≠ 0 → ∃ M : Model a x, Comp M) (A B : List Bool) (hA : num (true :: A) % 2 = 0) (hB : num (true :: B) % 2 = 0) :
    mulx a (mulx a u (true :: A)) (true :: B) = mulx a (mulx a u (true :: B)) (true :: A) := by
  by_cases hu : u = 0
  · subst hu
    simp only [mulx_zero]
  obtain ⟨M, hc⟩ := hm u hu
  have key : ∀ A B : List Bool, num (true :: B) % 2 = 0 → ∀ X Z, M.R (num (true :: B) * num (true :: A)) X Z → mulx a (mulx a u (true :: A)) (true :: B) = X*Z⁻¹ := by
    intro A B hB X Z h
    obtain ⟨X1, Z1, h1⟩ := M.some (num (true :: A))
    have e1 := mulx_val M (true :: A) h1
    by_cases h0 : mulx a u (true :: A) = 0
    · rw [h0, mulx_zero]
      rw [e1] at h0
      have hz := val_zero M h1 h0
      have e2 : num (true :: B) * num (true :: A) = 2*(num (true :: B) / 2)*num (true :: A) := by
        congr 1
        omega
      rw [e2] at h
      rw [M.even h1 hz h, inv_zero']
      grind
    · have hz : Z1 ≠ 0 := by
        intro hz
        rw [e1, hz, inv_zero'] at h0
        exact h0 (by grind)
      have k := inv_c hz
      have hi : Z1⁻¹ ≠ 0 := by
        intro hi
        rw [hi] at k
        exact (zero_ne (p := p)) (by grind)
      have h2 : M.R (num (true :: A)) (mulx a u (true :: A)) 1 := by
        have := M.scale hi h1
        rw [e1]
        rwa [show Z1⁻¹*X1 = X1*Z1⁻¹ by grind, show Z1⁻¹*Z1 = 1 by grind] at this
      obtain ⟨M', hM'⟩ := hc _ _ h0 h2
      obtain ⟨X3, Z3, h3⟩ := M'.some (num (true :: B))
      rw [mulx_val M' (true :: B) h3]
      exact val_eq M (hM' _ _ _ h3) h
  obtain ⟨X, Z, h⟩ := M.some (num (true :: B) * num (true :: A))
  rw [key A B hB X Z h, key B A hA X Z (by rwa [Nat.mul_comm] at h)]
/-- 4 times, of 1. -/
theorem mulx_one {a : Fin p} (hm : ∃ M : Model a 1, Comp M) (l : List Bool) (h4 : num l % 4 = 0) : mulx a 1 l = 0 := by
  obtain ⟨M, _⟩ := hm
  obtain ⟨X, Z, h⟩ := M.some (num l)
  rw [mulx_val M l h]
  have h2 := M.dbl M.one
  have h0 : dX (1 : Fin p) 1 * dZ a 1 1 = 0 := by unfold dX; grind
  have e : num l = 2*(num l / 4)*(2*1) := by omega
  rw [e] at h
  rw [M.even h2 h0 h, inv_zero']
  grind
/-- A point whose order is the prime L: what L doesn't go into makes something. -/
theorem mulx_ne {a u : Fin p} (M : Model a u) {L : Nat} (hL : L % 2 = 1) {X0 : Fin p} (h0 : M.R L X0 0) {n : Nat} (hn : Nat.gcd L n = 1) {X Z : Fin p} (h : M.R n X Z) : X*Z⁻¹ ≠ 0 := by
  have one : ∀ {m : Nat} {X Z : Fin p}, Nat.gcd L m = 1 → M.R m X Z → Z ≠ 0 := by
    intro m X Z hg hm hz
    obtain ⟨X', Z', h', hz'⟩ := M.gcd h0 rfl hm hz
    rw [hg] at h'
    have e := M.uniq h' M.one
    rw [hz'] at e
    rcases M.not0 h' with h1 | h1
    · exact h1 (by grind)
    · exact h1 hz'
  have hz := one hn h
  have hx : X ≠ 0 := by
    intro hx
    obtain ⟨X', Z', h'⟩ := M.some (2*1*n)
    have hz' := M.even h (by rw [hx]; grind) h'
    refine one ?_ h' hz'
    have h2 : Nat.gcd L 2 = 1 := by
      rw [Nat.gcd_comm, Nat.gcd_rec, hL]
      rfl
    exact Nat.Coprime.mul_right (by simpa using h2) hn
  have k := inv_c hz
  exact mul_ne hx (fun hi => by rw [hi] at k; exact (zero_ne (p := p)) (by grind))
end Go.Proofs.Ytcnehbfcagghpaa.Edw
namespace Go.Proofs.Ytcnehbfcagghpaa.Edw
variable {p : Nat} [pp : Prm p]
theorem ofNat_mul (a b : Nat) : Fin.ofNat p (a * b) = Fin.ofNat p a * Fin.ofNat p b := by
  apply Fin.ext
  rw [Fin.val_mul]
  simp only [Fin.val_ofNat]
  exact Nat.mul_mod a b p
theorem ofNat_add (a b : Nat) : Fin.ofNat p (a + b) = Fin.ofNat p a + Fin.ofNat p b := by
  apply Fin.ext
  rw [Fin.val_add]
  simp only [Fin.val_ofNat]
  exact Nat.add_mod a b p
theorem ofNat_mod (a : Nat) : Fin.ofNat p (a % p) = Fin.ofNat p a := by
  apply Fin.ext
  simp only [Fin.val_ofNat]
  exact Nat.mod_mod a p
theorem ofNat_val (a : Fin p) : Fin.ofNat p a.val = a := by
  apply Fin.ext
  simp only [Fin.val_ofNat]
  exact Nat.mod_eq_of_lt a.isLt
theorem ofNat_sub (a b : Nat) (h : b ≤ p) : Fin.ofNat p (a + p - b) = Fin.ofNat p a - Fin.ofNat p b := by
  have e : Fin.ofNat p (a + p - b) + Fin.ofNat p b = Fin.ofNat p a := by
    rw [← ofNat_add, Nat.sub_add_cancel (by omega)]
    apply Fin.ext
    simp
  rw [← e]
  grind
theorem ofNat_inj {a b : Nat} (ha : a < p) (hb : b < p) (h : Fin.ofNat p a = Fin.ofNat p b) : a = b := by
  have := congrArg Fin.val h
  simp only [Fin.val_ofNat] at this
  rwa [Nat.mod_eq_of_lt ha, Nat.mod_eq_of_lt hb] at this
/-- What is 1 to the power of half of p - 1 is a square. -/
theorem root_of {i t : Nat} (h8 : p % 8 = 5) (hi : i * i % p = p - 1) (ht : t ^ ((p - 1) / 2) % p = 1) : ∃ y, y * y % p = t % p := by
  have h2 := pp.gt
  obtain ⟨e, he⟩ : ∃ e, p = 8 * e + 5 := ⟨p / 8, by omega⟩
  have hk : (p - 1) / 2 = (2 * e + 1) + (2 * e + 1) := by omega
  rw [hk, Nat.pow_add] at ht
  have hxx : t ^ (e + 1) * t ^ (e + 1) = t * t ^ (2 * e + 1) := by
    rw [← Nat.pow_add, Nat.mul_comm t, ← Nat.pow_succ]
    congr 1
    omega
  rcases Nt.sq_one pp.pr ht with h1 | h1
  · refine ⟨t ^ (e + 1), ?_⟩
    rw [hxx, Nt.mm (b := t) (d := 1) rfl (by rw [h1, Nat.mod_eq_of_lt (by omega)]), Nat.mul_one]
  · refine ⟨t ^ (e + 1) * i, ?_⟩
    rw [Nat.mul_mul_mul_comm, hxx, Nt.mm (b := t * (p - 1)) (d := p - 1) (Nt.mm rfl (by rw [h1, Nat.mod_eq_of_lt (by omega)])) (by rw [hi, Nat.mod_eq_of_lt (by omega)]), Nat.mul_assoc]
    obtain ⟨q, hq⟩ : ∃ q, p = q + 2 := ⟨p - 2, by omega⟩
    rw [Nt.mm (b := t) (d := 1) rfl ?_, Nat.mul_one]
    rw [hq, show (q + 2 - 1) * (q + 2 - 1) = 1 + (q + 2) * q by
      rw [show q + 2 - 1 = q + 1 by omega]; simp only [Nat.mul_add, Nat.add_mul]; omega, Nat.add_mul_mod_self_left]
/-- A half power is 1 or -1. -/
theorem half_pow {t : Nat} (h : ¬ p ∣ t) (h1 : p % 2 = 1) : t ^ ((p - 1) / 2) % p = 1 ∨ t ^ ((p - 1) / 2) % p = p - 1 := by
  have h2 := pp.gt
  refine Nt.sq_one pp.pr ?_
  rw [← Nat.pow_add, show (p - 1) / 2 + (p - 1) / 2 = p - 1 by omega]
  exact Nt.fermat pp.pr h
theorem nosq {D : Nat} (h1 : p % 2 = 1) (hD : D ^ ((p - 1) / 2) % p = p - 1) : NoSq (Fin.ofNat p D) := by
  have h2 := pp.gt
  intro t ht
  have e : t.val * t.val % p = D % p := by
    have := congrArg Fin.val ht
    rw [Fin.val_mul] at this
    simpa only [Fin.val_ofNat] using this
  have hp : (t.val * t.val) ^ ((p - 1) / 2) % p = D ^ ((p - 1) / 2) % p := Nt.mp e _
  rw [hD, ← Nat.pow_two, ← Nat.pow_mul, show 2 * ((p - 1) / 2) = p - 1 by omega] at hp
  by_cases h0 : p ∣ t.val
  · have : t.val ^ (p - 1) % p = 0 := Nat.mod_eq_zero_of_dvd (Nat.dvd_trans h0 (by have := Nat.pow_dvd_pow t.val (show 1 ≤ p - 1 by omega); rwa [Nat.pow_one] at this))
    omega
  · rw [Nt.fermat pp.pr h0] at hp
    omega
theorem half {D i : Nat} (h8 : p % 8 = 5) (hi : i * i % p = p - 1) (hD : D ^ ((p - 1) / 2) % p = p - 1) : Half (Fin.ofNat p D) := by
  have h2 := pp.gt
  intro t ht
  have hd : ¬ p ∣ t.val := fun hd => by
    have h0 : t.val ≠ 0 := fun h0 => ht (Fin.ext (by simpa using h0))
    have := Nat.le_of_dvd (by omega) hd
    have := t.isLt
    omega
  rcases half_pow hd (by omega) with h | h
  · left
    obtain ⟨y, hy⟩ := root_of h8 hi h
    refine ⟨Fin.ofNat p y, ?_⟩
    rw [← ofNat_mul, ← ofNat_mod, hy, ofNat_mod, ofNat_val]
  · right
    have e : (t.val * D) ^ ((p - 1) / 2) % p = 1 := by
      rw [Nat.mul_pow, Nt.mm (b := p - 1) (d := p - 1) (by rw [h, Nat.mod_eq_of_lt (by omega)]) (by rw [hD, Nat.mod_eq_of_lt (by omega)])]
      obtain ⟨q, hq⟩ : ∃ q, p = q + 2 := ⟨p - 2, by omega⟩
      rw [hq, show (q + 2 - 1) * (q + 2 - 1) = 1 + (q + 2) * q by
        rw [show q + 2 - 1 = q + 1 by omega]; simp only [Nat.mul_add, Nat.add_mul]; omega, Nat.add_mul_mod_self_left, Nat.mod_eq_of_lt (by omega)]
    obtain ⟨y, hy⟩ := root_of h8 hi e
    refine ⟨Fin.ofNat p y, ?_⟩
    rw [← ofNat_mul, ← ofNat_mod, hy, ofNat_mod, ofNat_mul, ofNat_val]
end Go.Proofs.Ytcnehbfcagghpaa.Edw
namespace Go.Proofs.Ytcnehbfcagghpaa.Nt
theorem pr531581 : Pr 531581 := pr_tries 531581 728 (by omega) (by omega) (by decide +kernel)
theorem pr1224481 : Pr 1224481 := pr_tries 1224481 1105 (by omega) (by omega) (by decide +kernel)
theorem prQ4 : Pr 1257559732178653 := pr_two (a := 2) (b := 2) (by omega) (by omega) pr1224481 pr531581 (by omega) (by omega) (by decide +kernel) (by decide +kernel)
theorem prQ3 : Pr 4434155615661930479 := pr_one (a := 2) (by omega) (by omega) prQ4 (by omega) (by decide +kernel)
theorem prQ2 : Pr 172054593956031949258510691 := pr_one (a := 2) (by omega) (by omega) prQ3 (by omega) (by decide +kernel)
theorem prQ1 : Pr 19757330305831588566944191468367130476339 := pr_one (a := 2) (by omega) (by omega) prQ2 (by omega) (by decide +kernel)
theorem prQ0 : Pr 276602624281642239937218680557139826668747 := pr_one (a := 2) (by omega) (by omega) prQ1 (by omega) (by decide +kernel)
theorem prL : Pr 7237005577332262213973186563042994240857116359379907606001950938285454250989 := pr_one (a := 2) (by omega) (by omega) prQ0 (by omega) (by decide +kernel)
end Go.Proofs.Ytcnehbfcagghpaa.Nt
namespace Go.Proofs.Ytcnehbfcagghpaa.Edw
section
variable (p : Nat)
def nA (a b : Nat) : Nat := (a + b) % p
def nS (a b : Nat) : Nat := (a + p - b) % p
def nM (a b : Nat) : Nat := a * b % p
def dXN (x z : Nat) : Nat := nM p (nM p (nA p x z) (nA p x z)) (nM p (nS p x z) (nS p x z))
def dCN (x z : Nat) : Nat := nS p (nM p (nA p x z) (nA p x z)) (nM p (nS p x z) (nS p x z))
def dZN (x z : Nat) : Nat := nM p (dCN p x z) (nA p (nM p (nS p x z) (nS p x z)) (nM p 121666 (dCN p x z)))
def sAN (px pz qx qz : Nat) : Nat := nS p (nM p px qx) (nM p pz qz)
def sBN (px pz qx qz : Nat) : Nat := nS p (nM p px qz) (nM p pz qx)
def sXN (px pz qx qz : Nat) : Nat := nM p (sAN p px pz qx qz) (sAN p px pz qx qz)
def sZN (u px pz qx qz : Nat) : Nat := nM p u (nM p (sBN p px pz qx qz) (sBN p px pz qx qz))
/-- One step of the ladder. -/
def stpN (u : Nat) (s : Nat × Nat × Nat × Nat) (b : Bool) : Nat × Nat × Nat × Nat :=
  if b then (sXN p s.1 s.2.1 s.2.2.1 s.2.2.2, sZN p u s.1 s.2.1 s.2.2.1 s.2.2.2, dXN p s.2.2.1 s.2.2.2, dZN p s.2.2.1 s.2.2.2)
  else (dXN p s.1 s.2.1, dZN p s.1 s.2.1, sXN p s.1 s.2.1 s.2.2.1 s.2.2.2, sZN p u s.1 s.2.1 s.2.2.1 s.2.2.2)
def ladN (u : Nat) (l : List Bool) : Nat × Nat × Nat × Nat := l.foldl (stpN p u) (1, 0, u, 1)
/-- The multiple. -/
def multN (u : Nat) (l : List Bool) : Nat := nM p (ladN p u l).1 ((ladN p u l).2.1 ^ (p - 2) % p)
theorem multN_e {p e u : Nat} {l : List Bool} (he : e = p - 2) : (ladN p u l).1 * ((ladN p u l).2.1 ^ e % p) % p = multN p u l := by
  subst he
  rfl
end
section
variable {p : Nat} [pp : Prm p]
def φ (n : Nat) : Fin p := Fin.ofNat p n
theorem φA (a b : Nat) : (φ (nA p a b) : Fin p) = φ a + φ b := by unfold φ nA; rw [ofNat_mod, ofNat_add]
theorem φM (a b : Nat) : (φ (nM p a b) : Fin p) = φ a * φ b := by unfold φ nM; rw [ofNat_mod, ofNat_mul]
theorem φS (a b : Nat) (h : b ≤ p) : (φ (nS p a b) : Fin p) = φ a - φ b := by unfold φ nS; rw [ofNat_mod, ofNat_sub a b h]
theorem nM_lt (a b : Nat) : nM p a b < p := Nat.mod_lt _ (by have := pp.gt; omega)
theorem nA_lt (a b : Nat) : nA p a b < p := Nat.mod_lt _ (by have := pp.gt; omega)
theorem nS_lt (a b : Nat) : nS p a b < p := Nat.mod_lt _ (by have := pp.gt; omega)
theorem φdX (x z : Nat) (hz : z ≤ p) : (φ (dXN p x z) : Fin p) = dX (φ x) (φ z) := by
  unfold dXN dX
  simp only [φM, φA, φS _ _ hz]
theorem φdC (x z : Nat) (hz : z ≤ p) : (φ (dCN p x z) : Fin p) = (φ x + φ z)*(φ x + φ z) - (φ x - φ z)*(φ x - φ z) := by
  unfold dCN
  rw [φS _ _ (Nat.le_of_lt (nM_lt _ _))]
  simp only [φM, φA, φS _ _ hz]
theorem φdZ (x z : Nat) (hz : z ≤ p) : (φ (dZN p x z) : Fin p) = dZ (φ 121666) (φ x) (φ z) := by
  unfold dZN dZ
  simp only [φM, φA, φS _ _ hz, φdC _ _ hz]
theorem φsX (a b c d : Nat) : (φ (sXN p a b c d) : Fin p) = sX (φ a) (φ b) (φ c) (φ d) := by
  unfold sXN sAN sX
  rw [φM, φS _ _ (Nat.le_of_lt (nM_lt _ _))]
  simp only [φM]
theorem φsZ (u a b c d : Nat) : (φ (sZN p u a b c d) : Fin p) = sZ (φ u) (φ a) (φ b) (φ c) (φ d) := by
  unfold sZN sBN sZ
  rw [φM, φM, φS _ _ (Nat.le_of_lt (nM_lt _ _))]
  simp only [φM]
def φ4 (s : Nat × Nat × Nat × Nat) : Fin p × Fin p × Fin p × Fin p := (φ s.1, φ s.2.1, φ s.2.2.1, φ s.2.2.2)
def Lt4 (p : Nat) (s : Nat × Nat × Nat × Nat) : Prop := s.1 < p ∧ s.2.1 < p ∧ s.2.2.1 < p ∧ s.2.2.2 < p
theorem stp_lt (u : Nat) (s : Nat × Nat × Nat × Nat) (b : Bool) : Lt4 p (stpN p u s b) := by
  cases b <;> exact ⟨nM_lt _ _, nM_lt _ _, nM_lt _ _, nM_lt _ _⟩
theorem φstp (u : Nat) (s : Nat × Nat × Nat × Nat) (b : Bool) (h : Lt4 p s) : (φ4 (stpN p u s b) : Fin p × Fin p × Fin p × Fin p) = stp (φ 121666) (φ u) (φ4 s) b := by
  obtain ⟨_, h2, _, h4⟩ := h
  cases b <;> simp [φ4, stpN, stp, φdX, φdZ, φsX, φsZ, Nat.le_of_lt h2, Nat.le_of_lt h4]
theorem ladN_inv (u : Nat) (hu : u < p) (l : List Bool) : Lt4 p (ladN p u l) ∧ (φ4 (ladN p u l) : Fin p × Fin p × Fin p × Fin p) = lad (φ 121666) (φ u) l := by
  have : ∀ (l : List Bool) (s : Nat × Nat × Nat × Nat) (t : Fin p × Fin p × Fin p × Fin p), Lt4 p s → φ4 s = t → Lt4 p (l.foldl (stpN p u) s) ∧ φ4 (l.foldl (stpN p u) s) = l.foldl (stp (φ 121666) (φ u)) t := by
    intro l
    induction l with
    | nil => intro s t h1 h2; exact ⟨h1, h2⟩
    | cons b l ih =>
      intro s t h1 h2
      simp only [List.foldl_cons]
      refine ih _ _ (stp_lt u s b) ?_
      rw [φstp u s b h1, h2]
  have h2 := pp.gt
  refine this l (1, 0, u, 1) (1, 0, φ u, 1) ⟨by show 1 < p; omega, by show 0 < p; omega, hu, by show 1 < p; omega⟩ ?_
  rfl
theorem φ_inv (z : Nat) : (φ (z ^ (p - 2) % p) : Fin p) = (φ z)⁻¹ := by
  unfold φ
  rw [inv_def, ofNat_mod]
  apply Fin.ext
  simp only [Fin.val_ofNat]
  exact (Nat.pow_mod _ _ _)
theorem φmult (u : Nat) (hu : u < p) (l : List Bool) : (φ (multN p u l) : Fin p) = mulx (φ 121666) (φ u) l := by
  obtain ⟨_, h⟩ := ladN_inv u hu l
  unfold multN mulx
  rw [φM, φ_inv, ← h]
  rfl
theorem multN_lt (u : Nat) (l : List Bool) : multN p u l < p := nM_lt _ _
theorem φ_inj {a b : Nat} (ha : a < p) (hb : b < p) (h : (φ a : Fin p) = φ b) : a = b := ofNat_inj ha hb h
end
end Go.Proofs.Ytcnehbfcagghpaa.Edw
namespace Go.Proofs.Ytcnehbfcagghpaa.Edw
theorem d_half (e : Nat) (he : e = 28948022309329048855892746252171976963317496166410141009864396001978282409974) : 20800338683988658368647408995589388737092878452977063003340006470870624536394 ^ e % 57896044618658097711785492504343953926634992332820282019728792003956564819949 = 57896044618658097711785492504343953926634992332820282019728792003956564819948 := by
  rw [← Nat.one_mul (20800338683988658368647408995589388737092878452977063003340006470870624536394 ^ e), ← Nt.pm_eq 256 20800338683988658368647408995589388737092878452977063003340006470870624536394 e _ 1 (by subst he; decide +kernel)]
  subst he
  decide +kernel
section
variable {p : Nat} [pp : Prm p]
theorem two_ne : (2 : Fin p) ≠ 0 := by
  intro h
  have h1 := congrArg Fin.val h
  have h2 := pp.gt
  have e0 : (0 : Fin p).val = 0 % p := rfl
  have e1 : (2 : Fin p).val = 2 % p := rfl
  rw [e0, e1, Nat.zero_mod, Nat.mod_eq_of_lt (show 2 < p by omega)] at h1
  omega
theorem model25 (hp : p = 57896044618658097711785492504343953926634992332820282019728792003956564819949) (x : Fin p) (hx : x ≠ 0) : ∃ M : Model (φ 121666) x, Comp M := by
  have h8 : p % 8 = 5 := by omega
  have hD : 20800338683988658368647408995589388737092878452977063003340006470870624536394 ^ ((p - 1) / 2) % p = p - 1 := by
    have := d_half ((p - 1) / 2) (by omega)
    rw [← hp] at this
    rw [this]
    omega
  have hi : 19681161376707505956807079304988542015446066515923890162744021073123829784752 * 19681161376707505956807079304988542015446066515923890162744021073123829784752 % p = p - 1 := by
    rw [hp]
  refine model (d := φ 20800338683988658368647408995589388737092878452977063003340006470870624536394) (nosq (by omega) hD) two_ne (half h8 hi hD) ?_ hx
  have e1 : (φ 121666 : Fin p) * φ 20800338683988658368647408995589388737092878452977063003340006470870624536394 = φ 121665 := by
    unfold φ
    rw [← ofNat_mul, ← ofNat_mod (121666 * _), show 121666 * 20800338683988658368647408995589388737092878452977063003340006470870624536394 % p = 121665 by rw [hp]]
  have e2 : (φ 121666 : Fin p) = φ 121665 + 1 := by
    unfold φ
    rw [show (121666 : Nat) = 121665 + 1 from rfl, ofNat_add]
    rfl
  have e3 : (φ 121666 : Fin p) * (1 - φ 20800338683988658368647408995589388737092878452977063003340006470870624536394) = φ 121666 - φ 121666 * φ 20800338683988658368647408995589388737092878452977063003340006470870624536394 := by
    generalize (φ 121666 : Fin p) = a
    generalize (φ 20800338683988658368647408995589388737092878452977063003340006470870624536394 : Fin p) = b
    grind
  rw [e3, e1, e2]
  generalize (φ 121665 : Fin p) = b
  grind
/-- Two secrets make the same of any point, in whatever order. -/
theorem multN_swap (hp : p = 57896044618658097711785492504343953926634992332820282019728792003956564819949) (u : Nat) (hu : u < p) (A B : List Bool) (hA : num (true :: A) % 2 = 0) (hB : num (true :: B) % 2 = 0) :
    multN p (multN p u (true :: A)) (true :: B) = multN p (multN p u (true :: B)) (true :: A) := by
  refine φ_inj (multN_lt _ _) (multN_lt _ _) ?_
  rw [φmult _ (multN_lt _ _), φmult _ (multN_lt _ _), φmult u hu, φmult u hu]
  exact mulx_swap (model25 hp) A B hA hB
/-- Of 0 there comes 0. -/
theorem multN_zero (A : List Bool) : multN p 0 (true :: A) = 0 := by
  have h2 := pp.gt
  refine φ_inj (multN_lt _ _) (by omega) ?_
  rw [φmult 0 (by omega)]
  exact mulx_zero _ _
/-- Of 1 there comes 0, 4 times. -/
theorem multN_one (hp : p = 57896044618658097711785492504343953926634992332820282019728792003956564819949) (A : List Bool) (hA : num A % 4 = 0) : multN p 1 A = 0 := by
  have h2 := pp.gt
  refine φ_inj (multN_lt _ _) (by omega) ?_
  rw [φmult 1 (by omega)]
  exact mulx_one (model25 hp 1 (fun h => zero_ne h.symm)) A hA
/-- The bits of a number below 2^k, the highest first. -/
def bitsN : Nat → Nat → List Bool
  | 0, _ => []
  | k + 1, n => bitsN k (n / 2) ++ [n % 2 == 1]
theorem num_append (l : List Bool) (b : Bool) : num (l ++ [b]) = 2 * num l + (if b then 1 else 0) := by
  unfold num
  rw [List.foldl_append]
  rfl
theorem num_bits (k n : Nat) (h : n < 2 ^ k) : num (bitsN k n) = n := by
  induction k generalizing n with
  | zero => rw [show n = 0 by simpa using h]; rfl
  | succ k ih =>
    rw [bitsN, num_append, ih (n / 2) (by rw [Nat.pow_succ] at h; omega)]
    by_cases hb : n % 2 = 1
    · rw [hb]
      simp
      omega
    · have : n % 2 = 0 := by omega
      rw [this]
      simp
      omega
/-- What L doesn't go into. -/
theorem cop_L {n : Nat} (h0 : 0 < n) (h : n < 7237005577332262213973186563042994240857116359379907606001950938285454250989) : Nat.gcd 7237005577332262213973186563042994240857116359379907606001950938285454250989 n = 1 := by
  refine (Nt.prL.cop (fun hd => ?_))
  have := Nat.le_of_dvd h0 hd
  omega
theorem lad_base (e P' : Nat) (hP : P' = 57896044618658097711785492504343953926634992332820282019728792003956564819949) (he : e = 7237005577332262213973186563042994240857116359379907606001950938285454250989) : (ladN P' 9 (bitsN 253 e)).2.1 = 0 := by
  subst hP he
  exact Nat.eq_of_beq_eq_true (by decide +kernel)
/-- L times the base point is nothing. -/
theorem base_L (hp : p = 57896044618658097711785492504343953926634992332820282019728792003956564819949) (M : Model (φ 121666) (φ 9 : Fin p)) : ∃ X0, M.R 7237005577332262213973186563042994240857116359379907606001950938285454250989 X0 0 := by
  have h := (lad_inv M (bitsN 253 7237005577332262213973186563042994240857116359379907606001950938285454250989)).1
  rw [num_bits 253 7237005577332262213973186563042994240857116359379907606001950938285454250989 (by omega)] at h
  obtain ⟨_, hi⟩ := ladN_inv (p := p) 9 (by omega) (bitsN 253 7237005577332262213973186563042994240857116359379907606001950938285454250989)
  have hz : (lad (φ 121666) (φ 9 : Fin p) (bitsN 253 7237005577332262213973186563042994240857116359379907606001950938285454250989)).2.1 = 0 := by
    rw [← hi]
    show (φ (ladN p 9 (bitsN 253 7237005577332262213973186563042994240857116359379907606001950938285454250989)).2.1 : Fin p) = 0
    rw [lad_base 7237005577332262213973186563042994240857116359379907606001950938285454250989 p hp rfl]
    rfl
  rw [hz] at h
  exact ⟨_, h⟩
theorem mulx_mul {a u : Fin p} (M : Model a u) (hc : Comp M) (A B : List Bool) (hx : mulx a u A ≠ 0) {X Z : Fin p} (h : M.R (num B * num A) X Z) : mulx a (mulx a u A) B = X*Z⁻¹ := by
  obtain ⟨X1, Z1, h1⟩ := M.some (num A)
  have e1 := mulx_val M A h1
  have hz : Z1 ≠ 0 := by
    intro hz
    rw [e1, hz, inv_zero'] at hx
    exact hx (by grind)
  have k := inv_c hz
  have hi : Z1⁻¹ ≠ 0 := by
    intro hi
    rw [hi] at k
    exact zero_ne (p := p) (by grind)
  have h2 : M.R (num A) (mulx a u A) 1 := by
    have := M.scale hi h1
    rw [e1]
    rwa [show Z1⁻¹*X1 = X1*Z1⁻¹ by grind, show Z1⁻¹*Z1 = 1 by grind] at this
  obtain ⟨M', hM'⟩ := hc _ _ hx h2
  obtain ⟨X3, Z3, h3⟩ := M'.some (num B)
  rw [mulx_val M' B h3]
  exact val_eq M (hM' _ _ _ h3) h
theorem nine_ne (hp : p = 57896044618658097711785492504343953926634992332820282019728792003956564819949) : (φ 9 : Fin p) ≠ 0 := by
  intro h
  have := φ_inj (p := p) (a := 9) (b := 0) (by omega) (by omega) h
  omega
/-- A secret's share isn't 0. -/
theorem multN_base (hp : p = 57896044618658097711785492504343953926634992332820282019728792003956564819949) (A : List Bool) (hA : Nat.gcd 7237005577332262213973186563042994240857116359379907606001950938285454250989 (num A) = 1) : multN p 9 A ≠ 0 := by
  intro h0
  obtain ⟨M, _⟩ := model25 hp (φ 9) (nine_ne hp)
  obtain ⟨X0, hL⟩ := base_L hp M
  obtain ⟨X, Z, h⟩ := M.some (num A)
  refine mulx_ne M (by decide) hL hA h ?_
  rw [← mulx_val M A h, ← φmult 9 (by omega), h0]
  rfl
/-- What two secrets share isn't 0. -/
theorem multN_base2 (hp : p = 57896044618658097711785492504343953926634992332820282019728792003956564819949) (A B : List Bool) (hA : Nat.gcd 7237005577332262213973186563042994240857116359379907606001950938285454250989 (num A) = 1) (hB : Nat.gcd 7237005577332262213973186563042994240857116359379907606001950938285454250989 (num B) = 1) : multN p (multN p 9 A) B ≠ 0 := by
  intro h0
  obtain ⟨M, hc⟩ := model25 hp (φ 9) (nine_ne hp)
  obtain ⟨X0, hL⟩ := base_L hp M
  obtain ⟨X, Z, h⟩ := M.some (num B * num A)
  have hx : mulx (φ 121666) (φ 9 : Fin p) A ≠ 0 := by
    intro hx
    rw [← φmult 9 (by omega)] at hx
    exact multN_base hp A hA (φ_inj (multN_lt _ _) (by omega) hx)
  refine mulx_ne M (by decide) hL (Nat.Coprime.mul_right hB hA) h ?_
  rw [← mulx_mul M hc A B hx h, ← φmult 9 (by omega), ← φmult _ (multN_lt _ _), h0]
  rfl
end
end Go.Proofs.Ytcnehbfcagghpaa.Edw
namespace Go.Proofs.Ytcnehbfcagghpaa.Edw
section
variable (p : Nat)
def pS (x z : Nat) : Nat := nM p (nA p x z) (nA p x z)
def pG (x z : Nat) : Nat := nM p (nS p x z) (nS p x z)
def pP (x z : Nat) : Nat := nS p (pS p x z) (pG p x z)
def pdX (x z : Nat) : Nat := nM p (pS p x z) (pG p x z)
def pdZ (x z : Nat) : Nat := nM p (pP p x z) (nA p (pS p x z) (nM p (pP p x z) 121665))
def pL (px pz qx qz : Nat) : Nat := nM p (nA p px pz) (nS p qx qz)
def pR (px pz qx qz : Nat) : Nat := nM p (nS p px pz) (nA p qx qz)
def psX (px pz qx qz : Nat) : Nat := nM p (nA p (pL p px pz qx qz) (pR p px pz qx qz)) (nA p (pL p px pz qx qz) (pR p px pz qx qz))
def psZ (u px pz qx qz : Nat) : Nat := nM p (nM p (nS p (pL p px pz qx qz) (pR p px pz qx qz)) (nS p (pL p px pz qx qz) (pR p px pz qx qz))) u
/-- One step of the program's ladder. -/
def stpP (u : Nat) (s : Nat × Nat × Nat × Nat) (b : Bool) : Nat × Nat × Nat × Nat :=
  if b then (psX p s.2.2.1 s.2.2.2 s.1 s.2.1, psZ p u s.2.2.1 s.2.2.2 s.1 s.2.1, pdX p s.2.2.1 s.2.2.2, pdZ p s.2.2.1 s.2.2.2)
  else (pdX p s.1 s.2.1, pdZ p s.1 s.2.1, psX p s.1 s.2.1 s.2.2.1 s.2.2.2, psZ p u s.1 s.2.1 s.2.2.1 s.2.2.2)
def ladP (u : Nat) (l : List Bool) : Nat × Nat × Nat × Nat := l.foldl (stpP p u) (1, 0, u, 1)
def multP (u : Nat) (l : List Bool) : Nat := nM p (ladP p u l).1 ((ladP p u l).2.1 ^ (p - 2) % p)
theorem ladP_take (u : Nat) (l : List Bool) (k : Nat) (b : Bool) (h : l[k]? = some b) : ladP p u (l.take (k + 1)) = stpP p u (ladP p u (l.take k)) b := by
  obtain ⟨h1, rfl⟩ := List.getElem?_eq_some_iff.1 h
  unfold ladP
  rw [List.take_succ_eq_append_getElem h1, List.foldl_append]
  rfl
end
section
variable {p : Nat} [pp : Prm p]
theorem φ121665 : (φ 121665 : Fin p) = φ 121666 - 1 := by
  have h : (φ 121666 : Fin p) = φ 121665 + φ 1 := by unfold φ; rw [← ofNat_add]
  have h1 : (φ 1 : Fin p) = 1 := rfl
  rw [h1] at h
  grind
theorem φpd (x z : Nat) (hz : z ≤ p) : (φ (pdX p x z) : Fin p) = dX (φ x) (φ z) ∧ (φ (pdZ p x z) : Fin p) = dZ (φ 121666) (φ x) (φ z) := by
  have e : (φ (pP p x z) : Fin p) = (φ x + φ z)*(φ x + φ z) - (φ x - φ z)*(φ x - φ z) := by
    have hg : pG p x z ≤ p := Nat.le_of_lt (nM_lt _ _)
    unfold pP
    rw [φS _ _ hg]
    simp only [pS, pG, φM, φA, φS _ _ hz]
  constructor
  · simp only [pdX, pS, pG, dX, φM, φA, φS _ _ hz]
  · simp only [pdZ, pS, dZ, φM, φA, e, φ121665]
    grind
theorem φps (u a b c d : Nat) (hb : b ≤ p) (hd : d ≤ p) : (φ (psX p a b c d) : Fin p) = 4*sX (φ a) (φ b) (φ c) (φ d) ∧ (φ (psZ p u a b c d) : Fin p) = 4*sZ (φ u) (φ a) (φ b) (φ c) (φ d) := by
  have hr : pR p a b c d ≤ p := Nat.le_of_lt (nM_lt _ _)
  constructor
  · simp only [psX, sX, φM, φA, pL, pR, φS _ _ hb, φS _ _ hd]
    grind
  · have el : (φ (pL p a b c d) : Fin p) = (φ a + φ b)*(φ c - φ d) := by simp only [pL, φM, φA, φS _ _ hd]
    have er : (φ (pR p a b c d) : Fin p) = (φ a - φ b)*(φ c + φ d) := by simp only [pR, φM, φA, φS _ _ hb]
    simp only [psZ, sZ, φM, φS _ _ hr, el, er]
    clear hr el er
    grind
/-- Each point of the one is the other's, times a number. -/
def Alike (s t : Fin p × Fin p × Fin p × Fin p) : Prop := ∃ l m : Fin p, l ≠ 0 ∧ m ≠ 0 ∧ (s.1 = l*t.1 ∧ s.2.1 = l*t.2.1) ∧ (s.2.2.1 = m*t.2.2.1 ∧ s.2.2.2 = m*t.2.2.2)
theorem d_scale (a l x z : Fin p) : dX (l*x) (l*z) = l*l*(l*l)*dX x z ∧ dZ a (l*x) (l*z) = l*l*(l*l)*dZ a x z := by
  constructor
  · unfold dX; grind
  · unfold dZ; grind
theorem s_scale (u l m x z y w : Fin p) : 4*sX (l*x) (l*z) (m*y) (m*w) = 4*(l*m)*(l*m)*sX x z y w ∧ 4*sZ u (l*x) (l*z) (m*y) (m*w) = 4*(l*m)*(l*m)*sZ u x z y w := by
  constructor
  · unfold sX; grind
  · unfold sZ; grind
theorem s_turn (u x z y w : Fin p) : sX y w x z = sX x z y w ∧ sZ u y w x z = sZ u x z y w := by
  constructor
  · unfold sX; grind
  · unfold sZ; grind
theorem four_ne (h2 : (2 : Fin p) ≠ 0) : (4 : Fin p) ≠ 0 := by
  have := mul_ne h2 h2
  intro h
  apply this
  rw [← h]
  grind
theorem stp_alike (h2 : (2 : Fin p) ≠ 0) (u : Nat) (s : Nat × Nat × Nat × Nat) (t : Fin p × Fin p × Fin p × Fin p) (b : Bool) (hs : Lt4 p s) (h : Alike (φ4 s) t) : Alike (φ4 (stpP p u s b)) (stp (φ 121666) (φ u) t b) := by
  obtain ⟨l, m, hl, hm, ⟨e1, e2⟩, e3, e4⟩ := h
  obtain ⟨x, z, y, w⟩ := t
  obtain ⟨_, l2, _, l4⟩ := hs
  simp only [φ4] at e1 e2 e3 e4
  have n4 := mul_ne (mul_ne (four_ne h2) (mul_ne hl hm)) (mul_ne hl hm)
  have nl := mul_ne (mul_ne hl hl) (mul_ne hl hl)
  have nm := mul_ne (mul_ne hm hm) (mul_ne hm hm)
  cases b
  · refine ⟨_, _, nl, n4, ⟨?_, ?_⟩, ?_, ?_⟩
    · simp only [φ4, stpP, stp, Bool.false_eq_true, (φpd _ _ (Nat.le_of_lt l2)).1, e1, e2, (d_scale 0 l x z).1, if_false]
    · simp only [φ4, stpP, stp, Bool.false_eq_true, (φpd _ _ (Nat.le_of_lt l2)).2, e1, e2, (d_scale _ l x z).2, if_false]
    · simp only [φ4, stpP, stp, Bool.false_eq_true, (φps u _ _ _ _ (Nat.le_of_lt l2) (Nat.le_of_lt l4)).1, e1, e2, e3, e4, (s_scale 0 l m x z y w).1, if_false]
    · simp only [φ4, stpP, stp, Bool.false_eq_true, (φps u _ _ _ _ (Nat.le_of_lt l2) (Nat.le_of_lt l4)).2, e1, e2, e3, e4, (s_scale _ l m x z y w).2, if_false]
  · refine ⟨_, _, n4, nm, ⟨?_, ?_⟩, ?_, ?_⟩
    · simp only [φ4, stpP, stp, if_true, (φps u _ _ _ _ (Nat.le_of_lt l4) (Nat.le_of_lt l2)).1, e1, e2, e3, e4, (s_turn 0 (l*x) (l*z) (m*y) (m*w)).1, (s_scale 0 l m x z y w).1]
    · simp only [φ4, stpP, stp, if_true, (φps u _ _ _ _ (Nat.le_of_lt l4) (Nat.le_of_lt l2)).2, e1, e2, e3, e4, (s_turn _ (l*x) (l*z) (m*y) (m*w)).2, (s_scale _ l m x z y w).2]
    · simp only [φ4, stpP, stp, if_true, (φpd _ _ (Nat.le_of_lt l4)).1, e3, e4, (d_scale 0 m y w).1]
    · simp only [φ4, stpP, stp, if_true, (φpd _ _ (Nat.le_of_lt l4)).2, e3, e4, (d_scale _ m y w).2]
theorem stpP_lt (u : Nat) (s : Nat × Nat × Nat × Nat) (b : Bool) : Lt4 p (stpP p u s b) := by
  cases b <;> exact ⟨nM_lt _ _, nM_lt _ _, nM_lt _ _, nM_lt _ _⟩
theorem ladP_inv (h2 : (2 : Fin p) ≠ 0) (u : Nat) (hu : u < p) (l : List Bool) : Lt4 p (ladP p u l) ∧ Alike (φ4 (ladP p u l) : Fin p × Fin p × Fin p × Fin p) (lad (φ 121666) (φ u) l) := by
  have : ∀ (l : List Bool) (s : Nat × Nat × Nat × Nat) (t : Fin p × Fin p × Fin p × Fin p), Lt4 p s → Alike (φ4 s) t → Lt4 p (l.foldl (stpP p u) s) ∧ Alike (φ4 (l.foldl (stpP p u) s)) (l.foldl (stp (φ 121666) (φ u)) t) := by
    intro l
    induction l with
    | nil => intro s t h1 h2; exact ⟨h1, h2⟩
    | cons b l ih =>
      intro s t h1 hh
      simp only [List.foldl_cons]
      exact ih _ _ (stpP_lt u s b) (stp_alike h2 u s t b h1 hh)
  have h2' := pp.gt
  have one : (1 : Fin p) ≠ 0 := fun h => zero_ne h.symm
  refine this l (1, 0, u, 1) (1, 0, φ u, 1) ⟨by show 1 < p; omega, by show 0 < p; omega, hu, by show 1 < p; omega⟩ ⟨1, 1, one, one, ⟨?_, ?_⟩, ?_, ?_⟩
  · show (1 : Fin p) = 1*1; grind
  · show (0 : Fin p) = 1*0; grind
  · show (φ u : Fin p) = 1*φ u; grind
  · show (1 : Fin p) = 1*1; grind
theorem ratio {l x z : Fin p} (hl : l ≠ 0) : (l*x)*(l*z)⁻¹ = x*z⁻¹ := by
  by_cases hz : z = 0
  · subst hz
    have : l*(0 : Fin p) = 0 := by grind
    rw [this, inv_0]
    grind
  · have h1 := inv_c (mul_ne hl hz)
    have h2 := inv_c hz
    refine cancel (mul_ne hl hz) ?_
    generalize (l*z)⁻¹ = a at *
    generalize z⁻¹ = b at *
    have e1 : l*z*(l*x*a) = l*x*(l*z*a) := by grind
    have e2 : l*z*(x*b) = l*x*(z*b) := by grind
    rw [e1, e2, h1, h2]
theorem cross {x z y v zi vi : Fin p} (hz : z*zi = 1) (hv : v*vi = 1) (h : x*zi = y*vi) : x*v = y*z := by
  have e1 : x*v = x*zi*(z*v) := by grind
  have e2 : y*z = y*vi*(v*z) := by grind
  rw [e1, e2, h]
  grind
/-- Two multiples that differ, seen without a division. -/
theorem multN_apart (u : Nat) (A B : List Bool) (hA : (ladN p u A).2.1 % p ≠ 0) (hB : (ladN p u B).2.1 % p ≠ 0) (h : (ladN p u A).1 * (ladN p u B).2.1 % p ≠ (ladN p u B).1 * (ladN p u A).2.1 % p) : multN p u A ≠ multN p u B := by
  intro e
  apply h
  unfold multN at e
  generalize (ladN p u A).1 = x at *
  generalize (ladN p u A).2.1 = z at *
  generalize (ladN p u B).1 = y at *
  generalize (ladN p u B).2.1 = v at *
  have e2 := congrArg (φ (p := p)) e
  rw [φM, φM, φ_inv, φ_inv] at e2
  have nz : ∀ t : Nat, t % p ≠ 0 → (φ t : Fin p) ≠ 0 := by
    intro t ht h0
    apply ht
    have := congrArg Fin.val h0
    simpa [φ] using this
  have hz := inv_c (nz z hA)
  have hv := inv_c (nz v hB)
  have e3 : (φ x * φ v : Fin p) = φ y * φ z := cross hz hv e2
  rw [← φM, ← φM] at e3
  exact φ_inj (nM_lt _ _) (nM_lt _ _) e3
/-- What the program's ladder answers. -/
theorem multP_eq (h2 : (2 : Fin p) ≠ 0) (u : Nat) (hu : u < p) (l : List Bool) : multP p u l = multN p u l := by
  obtain ⟨k, _, hk, _, ⟨e1, e2⟩, _⟩ := (ladP_inv h2 u hu l).2
  obtain ⟨_, h⟩ := ladN_inv u hu l
  refine φ_inj (nM_lt _ _) (nM_lt _ _) ?_
  unfold multN multP
  rw [φM, φM, φ_inv, φ_inv]
  have a1 : (φ (ladP p u l).1 : Fin p) = k*φ (ladN p u l).1 := by rw [← h] at e1; exact e1
  have a2 : (φ (ladP p u l).2.1 : Fin p) = k*φ (ladN p u l).2.1 := by rw [← h] at e2; exact e2
  rw [a1, a2, ratio hk]
end
end Go.Proofs.Ytcnehbfcagghpaa.Edw
