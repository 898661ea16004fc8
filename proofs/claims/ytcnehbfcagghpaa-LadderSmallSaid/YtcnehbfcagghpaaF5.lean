/- Five parts of 51 bits. -/
import Derived.Laws.BitsLemmas
import Derived.Laws.Bits64
import Derived.Laws.Bits64b
namespace Go.Proofs.Ytcnehbfcagghpaa.F5
open Go
/-- The number of the parts. -/
def val : List Int → Int
  | [] => 0
  | d :: ds => d + 2251799813685248 * val ds
/-- The parts of a number below 2^255. -/
def digs : Nat → Int → List Int
  | 0, _ => []
  | k + 1, n => n % 2251799813685248 :: digs k (n / 2251799813685248)
theorem digs_len (k : Nat) (n : Int) : (digs k n).length = k := by
  induction k generalizing n with
  | zero => rfl
  | succ k ih => simp [digs, ih]
theorem digs5 (n : Int) : digs 5 n = [n % 2251799813685248, n / 2251799813685248 % 2251799813685248, n / 5070602400912917605986812821504 % 2251799813685248, n / 11417981541647679048466287755595961091061972992 % 2251799813685248, n / 25711008708143844408671393477458601640355247900524685364822016 % 2251799813685248] := by
  simp only [digs, List.cons.injEq, true_and, and_true]
  omega
theorem val_digs5 (n : Int) (h0 : 0 ≤ n) (h : n < 57896044618658097711785492504343953926634992332820282019728792003956564819968) : val (digs 5 n) = n := by
  simp only [digs, val]
  omega
theorem five (l : List Int) (h : l.length = 5) : ∃ a b c d e, l = [a, b, c, d, e] := by
  match l, h with
  | [a, b, c, d, e], _ => exact ⟨a, b, c, d, e, rfl⟩
/-- Parts as they come of the calls. -/
def Ok (l : List Int) : Prop := l.length = 5 ∧ ∀ x, x ∈ l → 0 ≤ x ∧ x < 2251799813947392
/-- Parts of 51 bits. -/
def Dig (l : List Int) : Prop := l.length = 5 ∧ ∀ x, x ∈ l → 0 ≤ x ∧ x < 2251799813685248
theorem Dig.ok {l : List Int} (h : Dig l) : Ok l := ⟨h.1, fun x hx => by have := h.2 x hx; omega⟩
theorem Ok.five {l : List Int} (h : Ok l) : ∃ a b c d e, l = [a, b, c, d, e] ∧ (0 ≤ a ∧ a < 2251799813947392) ∧ (0 ≤ b ∧ b < 2251799813947392) ∧ (0 ≤ c ∧ c < 2251799813947392) ∧ (0 ≤ d ∧ d < 2251799813947392) ∧ (0 ≤ e ∧ e < 2251799813947392) := by
  obtain ⟨a, b, c, d, e, rfl⟩ := F5.five l h.1
  exact ⟨a, b, c, d, e, rfl, h.2 a (by simp), h.2 b (by simp), h.2 c (by simp), h.2 d (by simp), h.2 e (by simp)⟩
theorem digs_dig (n : Int) : Dig (digs 5 n) := by
  refine ⟨digs_len 5 n, fun x hx => ?_⟩
  simp only [digs, List.mem_cons, List.not_mem_nil, or_false] at hx
  omega
theorem and51 (x : Int) (h0 : 0 ≤ x) (h : x < 18446744073709551616) : bits .and .u64 x 2251799813685247 = x % 2251799813685248 := by
  have := bits_mask .u64 64 (by decide) (fun n h0 h1 => by simp [IntKind.wrap, IntKind.bits, IntKind.signed] at h1 ⊢; omega) 51 (by decide) x h0 (by omega)
  simpa using this
/-- Carried once round. -/
def carried : List Int → List Int
  | [a, b, c, d, e] => [a % 2251799813685248 + e / 2251799813685248 * 19, b % 2251799813685248 + a / 2251799813685248, c % 2251799813685248 + b / 2251799813685248, d % 2251799813685248 + c / 2251799813685248, e % 2251799813685248 + d / 2251799813685248]
  | l => l
theorem carried_ok (l : List Int) (hl : l.length = 5) (h : ∀ x, x ∈ l → 0 ≤ x ∧ x < 18446744073709551616) : Ok (carried l) := by
  obtain ⟨a, b, c, d, e, rfl⟩ := F5.five l hl
  have ha := h a (by simp); have hb := h b (by simp); have hc := h c (by simp); have hd := h d (by simp); have he := h e (by simp)
  clear h
  refine ⟨rfl, fun x hx => ?_⟩
  simp only [carried, List.mem_cons, List.not_mem_nil, or_false] at hx
  omega
theorem carried_val (l : List Int) (hl : l.length = 5) : val (carried l) % 57896044618658097711785492504343953926634992332820282019728792003956564819949 = val l % 57896044618658097711785492504343953926634992332820282019728792003956564819949 := by
  obtain ⟨a, b, c, d, e, rfl⟩ := F5.five l hl
  simp only [carried, val]
  omega
/-- What is over, with 19 more. -/
def over : List Int → Int → Int
  | [], c => c
  | d :: ds, c => over ds ((d + c) / 2251799813685248)
/-- Parts and what is carried. -/
def carry : List Int → Int → List Int × Int
  | [], c => ([], c)
  | d :: ds, c => ((d + c) % 2251799813685248 :: (carry ds ((d + c) / 2251799813685248)).1, (carry ds ((d + c) / 2251799813685248)).2)
/-- The least parts. -/
def least (l : List Int) : List Int := (carry l (over l 19 * 19)).1
theorem least_eq (l : List Int) (h : Ok l) : least l = digs 5 (val l % 57896044618658097711785492504343953926634992332820282019728792003956564819949) := by
  obtain ⟨a, b, c, d, e, rfl, ha, hb, hc, hd, he⟩ := h.five
  simp only [least, over, carry, digs, val, List.cons.injEq, and_true]
  obtain ⟨q, hq⟩ : ∃ q, q = (e + (d + (c + (b + (a + 19) / 2251799813685248) / 2251799813685248) / 2251799813685248) / 2251799813685248) / 2251799813685248 := ⟨_, rfl⟩
  rw [← hq]
  obtain ⟨v, hv⟩ : ∃ v, v = a + 2251799813685248 * (b + 2251799813685248 * (c + 2251799813685248 * (d + 2251799813685248 * (e + 2251799813685248 * 0)))) := ⟨_, rfl⟩
  rw [← hv]
  have h1 : q = (v + 19) / 57896044618658097711785492504343953926634992332820282019728792003956564819968 := by omega
  have h2 : v % 57896044618658097711785492504343953926634992332820282019728792003956564819949 = v + 19 * q - 57896044618658097711785492504343953926634992332820282019728792003956564819968 * q := by omega
  rw [h2]
  clear h1 h2 hq
  omega
theorem over_append (a : List Int) (d c : Int) : over (a ++ [d]) c = (d + over a c) / 2251799813685248 := by
  induction a generalizing c with
  | nil => rfl
  | cons x t ih => simp [over, ih]
theorem carry_append (a : List Int) (d c : Int) : carry (a ++ [d]) c = ((carry a c).1 ++ [(d + (carry a c).2) % 2251799813685248], (d + (carry a c).2) / 2251799813685248) := by
  induction a generalizing c with
  | nil => simp [carry]
  | cons x t ih => simp [carry, ih]
theorem carry_len (ds : List Int) (c : Int) : (carry ds c).1.length = ds.length := by
  induction ds generalizing c with
  | nil => rfl
  | cons d t ih => simp [carry, ih]
end Go.Proofs.Ytcnehbfcagghpaa.F5
