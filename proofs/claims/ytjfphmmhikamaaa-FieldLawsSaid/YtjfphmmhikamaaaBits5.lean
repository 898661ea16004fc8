/- Digits of any width, bit by bit. -/
import Derived.Test.YtjfphmmhikamaaaInv5
namespace Go.Proofs.Ytjfphmmhikamaaa
open Go Go.RowKit
/-- A digit of w bits. -/
def dig (w j x : Nat) : Nat := x / 2 ^ (w * j) % 2 ^ w
def digL (w k x : Nat) : List Int := (List.range k).map fun j => (dig w j x : Int)
theorem digL_len (w k x : Nat) : (digL w k x).length = k := by simp [digL]
theorem digL_get (w k x j : Nat) (h : j < k) : (digL w k x)[j]? = some (dig w j x : Int) := by simp [digL, h]
theorem dig_lt (w j x : Nat) : dig w j x < 2 ^ w := Nat.mod_lt _ (Nat.two_pow_pos w)
theorem low_div {N n a : Nat} (h : n ≤ a) : N % 2 ^ n / 2 ^ a = 0 := Nat.div_eq_of_lt (Nat.lt_of_lt_of_le (Nat.mod_lt _ (Nat.two_pow_pos n)) (Nat.pow_le_pow_right (by omega) h))
theorem mod_div (N a b : Nat) : N % 2 ^ (a + b) / 2 ^ a = N / 2 ^ a % 2 ^ b := by rw [Nat.pow_add, Nat.mod_mul_right_div_self]
/-- A digit of the lowest n bits. -/
theorem dig_mod_high {w q r N j : Nat} (hr : r < w) (hj : q < j) : dig w j (N % 2 ^ (w * q + r)) = 0 := by
  rw [dig, low_div (by have := Nat.mul_le_mul_left w (show q + 1 ≤ j by omega); rw [Nat.mul_succ] at this; omega), Nat.zero_mod]
theorem dig_mod_at {w q r N : Nat} (hr : r ≤ w) : dig w q (N % 2 ^ (w * q + r)) = N / 2 ^ (w * q) % 2 ^ r := by
  rw [dig, mod_div, Nat.mod_eq_of_lt (Nat.lt_of_lt_of_le (Nat.mod_lt _ (Nat.two_pow_pos r)) (Nat.pow_le_pow_right (by omega) hr))]
theorem dig_mod_low {w q r N j : Nat} (hj : j < q) : dig w j (N % 2 ^ (w * q + r)) = dig w j N := by
  obtain ⟨c, rfl⟩ : ∃ c, q = j + 1 + c := ⟨q - (j + 1), by omega⟩
  rw [dig, dig, show w * (j + 1 + c) + r = w * j + (w + (w * c + r)) by rw [Nat.mul_add, Nat.mul_succ]; omega, mod_div, Nat.pow_add, Nat.mod_mul_right_mod]
theorem bit_at (w q r N : Nat) (hr : r < w) : dig w q N / 2 ^ r % 2 = N / 2 ^ (w * q + r) % 2 := by
  obtain ⟨c, rfl⟩ : ∃ c, w = r + (1 + c) := ⟨w - (r + 1), by omega⟩
  rw [dig, mod_div, Nat.pow_add 2 1 c, Nat.mod_mul_right_mod, Nat.pow_one, Nat.div_div_eq_div_mul, ← Nat.pow_add]
/-- One more bit. -/
theorem digL_bit {w k N q r : Nat} (hr : r < w) (_hq : q < k) :
    digL w k (N % 2 ^ (w * q + r + 1)) = (digL w k (N % 2 ^ (w * q + r))).set q ((N / 2 ^ (w * q) % 2 ^ r + N / 2 ^ (w * q + r) % 2 * 2 ^ r : Nat) : Int) := by
  refine List.ext_getElem? fun j => ?_
  rw [List.getElem?_set, digL_len]
  by_cases hjk : j < k
  · rw [digL_get _ _ _ _ hjk, digL_get _ _ _ _ hjk]
    by_cases hj : q = j
    · subst hj
      rw [if_pos rfl, if_pos hjk]
      refine congrArg (fun x : Nat => some (x : Int)) ?_
      rw [Nat.add_assoc, dig_mod_at (by omega), Nat.mod_pow_succ, Nat.div_div_eq_div_mul, ← Nat.pow_add, Nat.mul_comm (2 ^ r)]
    · rw [if_neg hj]
      refine congrArg (fun x : Nat => some (x : Int)) ?_
      by_cases h2 : j < q
      · rw [Nat.add_assoc, dig_mod_low h2, dig_mod_low h2]
      · by_cases h3 : r + 1 < w
        · rw [Nat.add_assoc, dig_mod_high h3 (by omega), dig_mod_high hr (by omega)]
        · rw [dig_mod_high hr (by omega), dig, low_div (by have := Nat.mul_le_mul_left w (show q + 1 ≤ j by omega); rw [Nat.mul_succ] at this; omega), Nat.zero_mod]
  · rw [List.getElem?_eq_none (by rw [digL_len]; omega), List.getElem?_eq_none (by rw [digL_len]; omega)]
    split
    · exfalso
      omega
    · rfl
theorem digL_zero (w k : Nat) (x : Nat) : digL w k (x % 2 ^ 0) = List.replicate k 0 := by
  rw [Nat.pow_zero, Nat.mod_one]
  refine List.ext_getElem (by simp [digL_len]) fun j h1 h2 => ?_
  simp [digL, dig]
theorem or_bit (k : IntKind) (j : Nat) (hj : j ≤ k.bits) (hk : ∀ n : Int, 0 ≤ n → n < 2 ^ j → k.wrap n = n) (x b r : Nat) (hx : x < 2 ^ r) (hb : b ≤ 1) (hr : r < j) : bits .or k (x : Int) ((b * 2 ^ r : Nat) : Int) = ((x + b * 2 ^ r : Nat) : Int) := by
  have hp : 2 ^ r < 2 ^ j := Nat.pow_lt_pow_right (by omega) hr
  have hbr : b * 2 ^ r < 2 ^ j := by
    have : b = 0 ∨ b = 1 := by omega
    rcases this with rfl | rfl <;> omega
  rw [(bits_nat k j hj hk x (b * 2 ^ r) (by omega) hbr).2]
  rw [Nat.or_comm, Nat.mul_comm, ← Nat.two_pow_add_eq_or_of_lt hx, Nat.add_comm]
end Go.Proofs.Ytjfphmmhikamaaa
