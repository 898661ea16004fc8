/- Bytes as polynomials, eight in a number. Nothing of the program stands here. -/
namespace Go.Proofs.YtomlednobmaaeaaDoor.Aes
abbrev LOW : BitVec 64 := 0x0101010101010101#64
@[irreducible] def twB (w : BitVec 64) : BitVec 64 := ((w <<< 1) &&& ~~~LOW) ^^^ ((w >>> 7 &&& LOW) * 27#64)
def lowN (n : Nat) : BitVec 64 := LOW * ((1#64 <<< n) - 1#64)
@[irreducible] def rlB (w : BitVec 64) (n : Nat) : BitVec 64 := ((w <<< n) &&& ~~~lowN n) ||| ((w >>> (8 - n)) &&& lowN n)
def sqs : List (BitVec 64) := [0x01#64, 0x04#64, 0x10#64, 0x40#64, 0x1B#64, 0x6C#64, 0xAB#64, 0x9A#64]
def sqF (w : BitVec 64) : Nat → BitVec 64
  | 0 => 0#64
  | k + 1 => sqF w k ^^^ ((w >>> k &&& LOW) * sqs.getD k 0#64)
def tmF (v w : BitVec 64) : Nat → BitVec 64
  | 0 => 0#64
  | k + 1 => twB (tmF v w k) ^^^ (v &&& ((w >>> (7 - k) &&& LOW) * 255#64))
@[irreducible] def sqB (w : BitVec 64) : BitVec 64 := sqF w 8
@[irreducible] def tmB (v w : BitVec 64) : BitVec 64 := tmF v w 8
@[irreducible] def ivB (w : BitVec 64) : BitVec 64 :=
  let to2 := sqB w
  let to3 := tmB to2 w
  let to12 := sqB (sqB to3)
  let to15 := tmB to12 to3
  let to240 := sqB (sqB (sqB (sqB to15)))
  tmB (tmB to240 to12) to2
@[irreducible] def otB (x : BitVec 64) : BitVec 64 :=
  let w := ivB x
  w ^^^ rlB w 1 ^^^ rlB w 2 ^^^ rlB w 3 ^^^ rlB w 4 ^^^ 0x6363636363636363#64

/-- A byte of a number. -/
def ln (w : BitVec 64) (i : Nat) : BitVec 8 := w.extractLsb' (8 * i) 8
theorem ln_ext {a b : BitVec 64} (h : ∀ i, i < 8 → ln a i = ln b i) : a = b := by
  apply BitVec.eq_of_getLsbD_eq
  intro j hj
  have := h (j / 8) (by omega)
  have h2 : (ln a (j / 8)).getLsbD (j % 8) = (ln b (j / 8)).getLsbD (j % 8) := by rw [this]
  simp only [ln, BitVec.getLsbD_extractLsb'] at h2
  have e : 8 * (j / 8) + j % 8 = j := by omega
  have e2 : j % 8 < 8 := by omega
  simpa [e, e2] using h2
theorem ln_xor (a b : BitVec 64) (i : Nat) : ln (a ^^^ b) i = ln a i ^^^ ln b i := by
  apply BitVec.eq_of_getLsbD_eq
  intro j hj
  simp [ln, hj]
theorem ln_and (a b : BitVec 64) (i : Nat) : ln (a &&& b) i = ln a i &&& ln b i := by
  apply BitVec.eq_of_getLsbD_eq
  intro j hj
  simp [ln, hj]
theorem ln_or (a b : BitVec 64) (i : Nat) : ln (a ||| b) i = ln a i ||| ln b i := by
  apply BitVec.eq_of_getLsbD_eq
  intro j hj
  simp [ln, hj]
def bt (b : Bool) (k : Nat) : BitVec 64 := bif b then 1#64 <<< k else 0#64
def spr (b0 b1 b2 b3 b4 b5 b6 b7 : Bool) : BitVec 64 := bt b0 0 ||| bt b1 8 ||| bt b2 16 ||| bt b3 24 ||| bt b4 32 ||| bt b5 40 ||| bt b6 48 ||| bt b7 56
theorem and_low (y : BitVec 64) : y &&& LOW = spr (y.getLsbD 0) (y.getLsbD 8) (y.getLsbD 16) (y.getLsbD 24) (y.getLsbD 32) (y.getLsbD 40) (y.getLsbD 48) (y.getLsbD 56) := by
  have e : ∀ k, y &&& (1#64 <<< k) = bt (y.getLsbD k) k := by
    intro k
    apply BitVec.eq_of_getLsbD_eq
    intro j hj
    unfold bt
    by_cases h : j = k
    · subst h
      cases hy : y.getLsbD j <;> simp [hj, hy, -BitVec.getLsbD_eq_getElem]
    · have : (1#64 <<< k).getLsbD j = false := by
        rw [BitVec.getLsbD_shiftLeft]
        by_cases hk : j < k
        · simp [hk]
        · simp [hk, hj]; omega
      cases hy : y.getLsbD k <;> simp [this]
  have : LOW = 1#64 <<< 0 ||| 1#64 <<< 8 ||| 1#64 <<< 16 ||| 1#64 <<< 24 ||| 1#64 <<< 32 ||| 1#64 <<< 40 ||| 1#64 <<< 48 ||| 1#64 <<< 56 := by decide
  rw [this]
  simp only [BitVec.and_or_distrib_left, e]
  rfl
def sel (b : Bool) (c : BitVec 8) : BitVec 8 := bif b then c else 0#8
def nth8 (b0 b1 b2 b3 b4 b5 b6 b7 : Bool) : Nat → Bool
  | 0 => b0 | 1 => b1 | 2 => b2 | 3 => b3 | 4 => b4 | 5 => b5 | 6 => b6 | _ => b7
def mulOk (c : BitVec 8) : Prop := ∀ b0 b1 b2 b3 b4 b5 b6 b7 : Bool, ∀ i : Fin 8, ln (spr b0 b1 b2 b3 b4 b5 b6 b7 * c.setWidth 64) i.val = sel (nth8 b0 b1 b2 b3 b4 b5 b6 b7 i.val) c
instance (c : BitVec 8) : Decidable (mulOk c) := by unfold mulOk; infer_instance
theorem ln_mul {c : BitVec 8} (hc : mulOk c) (y : BitVec 64) {i : Nat} (hi : i < 8) : ln ((y &&& LOW) * c.setWidth 64) i = sel ((ln y i).getLsbD 0) c := by
  rw [and_low, hc _ _ _ _ _ _ _ _ ⟨i, hi⟩]
  congr 1
  have : i = 0 ∨ i = 1 ∨ i = 2 ∨ i = 3 ∨ i = 4 ∨ i = 5 ∨ i = 6 ∨ i = 7 := by omega
  rcases this with rfl | rfl | rfl | rfl | rfl | rfl | rfl | rfl <;> simp [nth8, ln]
theorem ok27 : mulOk 27#8 := by decide +kernel
theorem ok255 : mulOk 255#8 := by decide +kernel
theorem ok1 : mulOk 1#8 := by decide +kernel
theorem ok4 : mulOk 4#8 := by decide +kernel
theorem ok16 : mulOk 16#8 := by decide +kernel
theorem ok64 : mulOk 64#8 := by decide +kernel
theorem ok108 : mulOk 0x6C#8 := by decide +kernel
theorem ok171 : mulOk 0xAB#8 := by decide +kernel
theorem ok154 : mulOk 0x9A#8 := by decide +kernel

def tw8 (b : BitVec 8) : BitVec 8 := (b <<< 1) ^^^ sel (b.getLsbD 7) 27#8
def rl8 (b : BitVec 8) (n : Nat) : BitVec 8 := (b <<< n) ||| (b >>> (8 - n))
def sq8s : List (BitVec 8) := [0x01#8, 0x04#8, 0x10#8, 0x40#8, 0x1B#8, 0x6C#8, 0xAB#8, 0x9A#8]
def sq8F (w : BitVec 8) : Nat → BitVec 8
  | 0 => 0#8
  | k + 1 => sq8F w k ^^^ sel (w.getLsbD k) (sq8s.getD k 0#8)
def tm8F (v w : BitVec 8) : Nat → BitVec 8
  | 0 => 0#8
  | k + 1 => tw8 (tm8F v w k) ^^^ sel (w.getLsbD (7 - k)) v
def sq8 (w : BitVec 8) : BitVec 8 := sq8F w 8
def tm8 (v w : BitVec 8) : BitVec 8 := tm8F v w 8
def iv8 (w : BitVec 8) : BitVec 8 :=
  let to2 := sq8 w
  let to3 := tm8 to2 w
  let to12 := sq8 (sq8 to3)
  let to15 := tm8 to12 to3
  let to240 := sq8 (sq8 (sq8 (sq8 to15)))
  tm8 (tm8 to240 to12) to2
def ot8 (x : BitVec 8) : BitVec 8 :=
  let w := iv8 x
  w ^^^ rl8 w 1 ^^^ rl8 w 2 ^^^ rl8 w 3 ^^^ rl8 w 4 ^^^ 0x63#8

theorem lnbit (w : BitVec 64) {i j : Nat} (hj : j < 8) : (ln w i).getLsbD j = w.getLsbD (8 * i + j) := by simp [ln, hj]
theorem shr_bit (w : BitVec 64) {i k : Nat} (_ : i < 8) (hk : k < 8) : (ln (w >>> k) i).getLsbD 0 = (ln w i).getLsbD k := by
  rw [lnbit _ (by omega), lnbit _ hk, BitVec.getLsbD_ushiftRight]
  congr 1
  omega
theorem ln_tw (w : BitVec 64) {i : Nat} (hi : i < 8) : ln (twB w) i = tw8 (ln w i) := by
  unfold twB tw8
  rw [ln_xor, show (27#64) = (27#8).setWidth 64 by decide, ln_mul ok27 _ hi, shr_bit w hi (by omega)]
  congr 1
  apply BitVec.eq_of_getLsbD_eq
  intro j hj
  have hx : i = 0 ∨ i = 1 ∨ i = 2 ∨ i = 3 ∨ i = 4 ∨ i = 5 ∨ i = 6 ∨ i = 7 := by omega
  have hy : j = 0 ∨ j = 1 ∨ j = 2 ∨ j = 3 ∨ j = 4 ∨ j = 5 ∨ j = 6 ∨ j = 7 := by omega
  rcases hx with rfl | rfl | rfl | rfl | rfl | rfl | rfl | rfl <;> rcases hy with rfl | rfl | rfl | rfl | rfl | rfl | rfl | rfl <;> simp [ln, LOW]
theorem ln_rl1 (n : Nat) (hn : n = 1 ∨ n = 2 ∨ n = 3 ∨ n = 4) (w : BitVec 64) {i : Nat} (hi : i < 8) : ln (rlB w n) i = rl8 (ln w i) n := by
  unfold rlB rl8
  apply BitVec.eq_of_getLsbD_eq
  intro j hj
  have h1 : lowN 1 = 0x0101010101010101#64 := by decide
  have h2 : lowN 2 = 0x0303030303030303#64 := by decide
  have h3 : lowN 3 = 0x0707070707070707#64 := by decide
  have h4 : lowN 4 = 0x0F0F0F0F0F0F0F0F#64 := by decide
  have hx : i = 0 ∨ i = 1 ∨ i = 2 ∨ i = 3 ∨ i = 4 ∨ i = 5 ∨ i = 6 ∨ i = 7 := by omega
  have hy : j = 0 ∨ j = 1 ∨ j = 2 ∨ j = 3 ∨ j = 4 ∨ j = 5 ∨ j = 6 ∨ j = 7 := by omega
  rcases hn with rfl | rfl | rfl | rfl <;> rcases hx with rfl | rfl | rfl | rfl | rfl | rfl | rfl | rfl <;> rcases hy with rfl | rfl | rfl | rfl | rfl | rfl | rfl | rfl <;> simp [ln, h1, h2, h3, h4]
theorem ln_and255 (v y : BitVec 64) {i : Nat} (hi : i < 8) : ln (v &&& ((y &&& LOW) * 255#64)) i = sel ((ln y i).getLsbD 0) (ln v i) := by
  rw [ln_and, show (255#64) = (255#8).setWidth 64 by decide, ln_mul ok255 _ hi]
  cases (ln y i).getLsbD 0
  · simp [sel]
  · simp only [sel, cond_true]
    exact BitVec.and_allOnes
theorem ln_tmF (v w : BitVec 64) {i : Nat} (hi : i < 8) : ∀ k, k ≤ 8 → ln (tmF v w k) i = tm8F (ln v i) (ln w i) k
  | 0, _ => by simp [tmF, tm8F, ln]
  | k + 1, hk => by
    rw [tmF, tm8F, ln_xor, ln_tw _ hi, ln_tmF v w hi k (by omega), ln_and255 _ _ hi, shr_bit w hi (by omega)]
theorem ln_tm (v w : BitVec 64) {i : Nat} (hi : i < 8) : ln (tmB v w) i = tm8 (ln v i) (ln w i) := by
  unfold tmB
  exact ln_tmF v w hi 8 (by omega)
theorem sq_len (k : Nat) (hk : k < 8) : mulOk (sq8s.getD k 0#8) ∧ sqs.getD k 0#64 = (sq8s.getD k 0#8).setWidth 64 := by
  have hx : k = 0 ∨ k = 1 ∨ k = 2 ∨ k = 3 ∨ k = 4 ∨ k = 5 ∨ k = 6 ∨ k = 7 := by omega
  rcases hx with rfl | rfl | rfl | rfl | rfl | rfl | rfl | rfl
  · exact ⟨ok1, by decide⟩
  · exact ⟨ok4, by decide⟩
  · exact ⟨ok16, by decide⟩
  · exact ⟨ok64, by decide⟩
  · exact ⟨ok27, by decide⟩
  · exact ⟨ok108, by decide⟩
  · exact ⟨ok171, by decide⟩
  · exact ⟨ok154, by decide⟩
theorem ln_sqF (w : BitVec 64) {i : Nat} (hi : i < 8) : ∀ k, k ≤ 8 → ln (sqF w k) i = sq8F (ln w i) k
  | 0, _ => by simp [sqF, sq8F, ln]
  | k + 1, hk => by
    rw [sqF, sq8F, ln_xor, ln_sqF w hi k (by omega), (sq_len k (by omega)).2, ln_mul (sq_len k (by omega)).1 _ hi, shr_bit w hi (by omega)]
theorem ln_sq (w : BitVec 64) {i : Nat} (hi : i < 8) : ln (sqB w) i = sq8 (ln w i) := by
  unfold sqB
  exact ln_sqF w hi 8 (by omega)
theorem ln_iv (w : BitVec 64) {i : Nat} (hi : i < 8) : ln (ivB w) i = iv8 (ln w i) := by
  unfold ivB iv8
  simp only [ln_tm _ _ hi, ln_sq _ hi]
theorem ln_ot (w : BitVec 64) {i : Nat} (hi : i < 8) : ln (otB w) i = ot8 (ln w i) := by
  unfold otB ot8
  have h63 : ln 0x6363636363636363#64 i = 0x63#8 := by
    have hx : i = 0 ∨ i = 1 ∨ i = 2 ∨ i = 3 ∨ i = 4 ∨ i = 5 ∨ i = 6 ∨ i = 7 := by omega
    rcases hx with rfl | rfl | rfl | rfl | rfl | rfl | rfl | rfl <;> decide
  simp only [ln_xor, ln_iv _ hi, ln_rl1 1 (by simp) _ hi, ln_rl1 2 (by simp) _ hi, ln_rl1 3 (by simp) _ hi, ln_rl1 4 (by simp) _ hi, h63]
end Go.Proofs.YtomlednobmaaeaaDoor.Aes
