/- What the ladder answers, as bytes: laws. -/
import Derived.Test.YtcnehbfcagghpaaMult4
import Derived.Test.YtcnehbfcagghpaaCurve
namespace Go.Proofs.Ytcnehbfcagghpaa
open Go Go.RowKit
/-- The multiple's bytes. -/
def mulB (lk lu : List UInt8) : List UInt8 := leB 32 (Edw.multN 57896044618658097711785492504343953926634992332820282019728792003956564819949 (readU lu) (Edw.bitsN 255 (leN (trimB lk))))
theorem mulB_len (lk lu : List UInt8) : (mulB lk lu).length = 32 := leB_len _ _
theorem readU_lt (l : List UInt8) : readU l < 57896044618658097711785492504343953926634992332820282019728792003956564819949 := Nat.mod_lt _ (by omega)
theorem leN_leB (k n : Nat) : leN (leB k n) = n % 256 ^ k := by
  induction k generalizing n with
  | zero => simp [leB, leN, Nat.mod_one]
  | succ k ih =>
    have e : (256 : Nat) ^ (k + 1) = 256 * 256 ^ k := Nat.pow_succ'
    rw [leB, leN, ih, UInt8.toNat_ofNat', e, Nat.mod_mul]
    omega
theorem readU_leB {m : Nat} (h : m < 57896044618658097711785492504343953926634992332820282019728792003956564819949) : readU (leB 32 m) = m := by
  have e : (256 : Nat) ^ 32 = 115792089237316195423570985008687907853269984665640564039457584007913129639936 := by decide +kernel
  rw [readU, leN_leB, e]
  omega
theorem leB_ne {m : Nat} (h : m < 57896044618658097711785492504343953926634992332820282019728792003956564819949) (h0 : m ≠ 0) : leB 32 m ≠ List.replicate 32 0 := by
  intro e
  have h1 := congrArg leN e
  have e2 : leN (List.replicate 32 (0 : UInt8)) = 0 := by decide
  have e3 : (256 : Nat) ^ 32 = 115792089237316195423570985008687907853269984665640564039457584007913129639936 := by decide +kernel
  rw [leN_leB, e2, e3] at h1
  omega
theorem leB_zero : leB 32 0 = List.replicate 32 0 := by decide
theorem trimB_len {l : List UInt8} (h : l.length = 32) : (trimB l).length = 32 := by rw [trimB, List.length_set, List.length_set, h]
theorem trim_form {l : List UInt8} (h : l.length = 32) : ∃ a m z, l = a :: (m ++ [z]) ∧ m.length = 30 := by
  match l, h with
  | a :: t, h =>
    have ht : t ≠ [] := fun e => by subst e; simp at h
    exact ⟨a, t.dropLast, t.getLast ht, by rw [List.dropLast_concat_getLast], by simp at h ⊢; omega⟩
theorem trimB_form (a z : UInt8) (m : List UInt8) (hm : m.length = 30) : trimB (a :: (m ++ [z])) = UInt8.ofNat (a.toNat - a.toNat % 8) :: (m ++ [UInt8.ofNat (z.toNat % 64 + 64)]) := by
  have e1 : (a :: (m ++ [z])).getD 31 0 = z := by
    rw [List.getD_eq_getElem?_getD, List.getElem?_cons_succ, List.getElem?_append_right (by omega), hm]
    rfl
  rw [trimB, e1, List.set_cons_zero, List.set_cons_succ, List.set_append_right _ _ (by omega), hm]
  rfl
theorem leN_form (a z : UInt8) (m : List UInt8) (hm : m.length = 30) : leN (a :: (m ++ [z])) = a.toNat + 256 * leN m + 256 ^ 31 * z.toNat := by
  rw [leN, leN_append, hm, leN, leN, Nat.mul_zero, Nat.add_zero, Nat.mul_add, Nat.add_assoc, ← Nat.mul_assoc, show (256 : Nat) * 256 ^ 30 = 256 ^ 31 from rfl]
theorem leN_lt (l : List UInt8) : leN l < 256 ^ l.length := by
  induction l with
  | nil => simp [leN]
  | cons c t ih =>
    have := UInt8.toNat_lt c
    rw [leN, List.length_cons, Nat.pow_succ]
    omega
theorem p31 : (256 : Nat) ^ 31 = 452312848583266388373324160190187140051835877600158453279131187530910662656 := by decide +kernel
theorem p30 : (256 : Nat) ^ 30 = 1766847064778384329583297500742918515827483896875618958121606201292619776 := by decide +kernel
/-- A secret's number. -/
theorem trim_num {l : List UInt8} (h : l.length = 32) : ∃ m, leN (trimB l) = 8 * m ∧ 3618502788666131106986593281521497120414687020801267626233049500247285301248 ≤ m ∧ m < 7237005577332262213973186563042994240829374041602535252466099000494570602496 := by
  obtain ⟨a, m, z, rfl, hm⟩ := trim_form h
  have ha := UInt8.toNat_lt a
  have hz := UInt8.toNat_lt z
  have hl := leN_lt m
  rw [trimB_form a z m hm, leN_form _ _ _ hm, UInt8.toNat_ofNat', UInt8.toNat_ofNat', p31]
  rw [hm, p30] at hl
  refine ⟨((a.toNat - a.toNat % 8) % 2 ^ 8 + 256 * leN m + 452312848583266388373324160190187140051835877600158453279131187530910662656 * ((z.toNat % 64 + 64) % 2 ^ 8)) / 8, ?_, ?_, ?_⟩ <;> omega
theorem bits_trim {l : List UInt8} (h : l.length = 32) : ∃ A m, Edw.bitsN 255 (leN (trimB l)) = true :: A ∧ Edw.num (true :: A) = 8 * m ∧ 0 < m ∧ m < 7237005577332262213973186563042994240857116359379907606001950938285454250989 := by
  obtain ⟨m, h1, h2, h3⟩ := trim_num h
  have e254 : (2 : Nat) ^ 254 = 28948022309329048855892746252171976963317496166410141009864396001978282409984 := by decide +kernel
  have e255 : (2 : Nat) ^ 255 = 57896044618658097711785492504343953926634992332820282019728792003956564819968 := by decide +kernel
  have hb := Edw.bitsN_get 255 (leN (trimB l)) 0 (by omega)
  have hn := Edw.num_bits 255 (leN (trimB l)) (by rw [e255]; omega)
  rw [show (255 - 1 - 0 : Nat) = 254 from rfl, e254, h1] at hb
  rw [h1] at hn ⊢
  cases hc : Edw.bitsN 255 (8 * m) with
  | nil => rw [hc] at hb; simp at hb
  | cons b A =>
    rw [hc] at hb hn
    have hbt : b = true := by
      rw [List.getElem?_cons_zero] at hb
      rw [Option.some.inj hb, beq_iff_eq]
      omega
    subst hbt
    exact ⟨A, m, rfl, hn, by omega, by omega⟩
theorem cop_trim {m : Nat} (h0 : 0 < m) (h : m < 7237005577332262213973186563042994240857116359379907606001950938285454250989) : Nat.gcd 7237005577332262213973186563042994240857116359379907606001950938285454250989 (8 * m) = 1 :=
  Nat.Coprime.mul_right (Edw.cop_L (by omega) (by omega)) (Edw.cop_L h0 h)
/-- Two secrets make the same, in whatever order. -/
theorem mulB_swap {a b : List UInt8} (u : List UInt8) (ha : a.length = 32) (hb : b.length = 32) : mulB b (mulB a u) = mulB a (mulB b u) := by
  obtain ⟨A, m, eA, nA, _⟩ := bits_trim ha
  obtain ⟨B, n, eB, nB, _⟩ := bits_trim hb
  unfold mulB
  rw [readU_leB (Edw.multN_lt _ _), readU_leB (Edw.multN_lt _ _), eA, eB, Edw.multN_swap rfl _ (readU_lt u) A B (by omega) (by omega)]
/-- Points of the least orders make nothing. -/
theorem mulB_small {k u : List UInt8} (hk : k.length = 32) (hu : readU u = 0 ∨ readU u = 1) : mulB k u = List.replicate 32 0 := by
  obtain ⟨A, m, eA, nA, _⟩ := bits_trim hk
  unfold mulB
  rw [eA, ← leB_zero]
  rcases hu with hu | hu
  · rw [hu, Edw.multN_zero]
  · rw [hu, Edw.multN_one rfl _ (by omega)]
/-- The base point's bytes. -/
def nineB : List UInt8 := 9 :: List.replicate 31 0
theorem readU_nine : readU nineB = 9 := by decide
theorem mulB_base2 {a b : List UInt8} (ha : a.length = 32) (hb : b.length = 32) : mulB b (mulB a nineB) ≠ List.replicate 32 0 := by
  obtain ⟨A, m, eA, nA, m0, m1⟩ := bits_trim ha
  obtain ⟨B, n, eB, nB, n0, n1⟩ := bits_trim hb
  unfold mulB
  rw [readU_leB (Edw.multN_lt _ _), eA, eB, readU_nine]
  refine leB_ne (Edw.multN_lt _ _) ?_
  exact Edw.multN_base2 rfl _ _ (by rw [nA]; exact cop_trim m0 m1) (by rw [nB]; exact cop_trim n0 n1)
theorem trimB_twice {l : List UInt8} (h : l.length = 32) : trimB (trimB l) = trimB l := by
  obtain ⟨a, m, z, rfl, hm⟩ := trim_form h
  have ha := UInt8.toNat_lt a
  have hz := UInt8.toNat_lt z
  rw [trimB_form a z m hm, trimB_form _ _ m hm]
  rw [UInt8.toNat_ofNat', UInt8.toNat_ofNat']
  congr 1
  · congr 1
    omega
  · congr 3
    omega
/-- The highest bit of a point plays no part. -/
theorem readU_flip {l : List UInt8} (h : l.length = 32) (x : UInt8) (hx : x.toNat % 128 = (l.getD 31 0).toNat % 128) : readU (l.set 31 x) = readU l := by
  obtain ⟨a, m, z, rfl, hm⟩ := trim_form h
  have e1 : (a :: (m ++ [z])).getD 31 0 = z := by
    rw [List.getD_eq_getElem?_getD, List.getElem?_cons_succ, List.getElem?_append_right (by omega), hm]
    rfl
  rw [e1] at hx
  rw [readU, readU, List.set_cons_succ, List.set_append_right _ _ (by omega), hm, show [z].set (30 - 30) x = [x] from rfl, leN_form _ _ _ hm, leN_form _ _ _ hm, p31]
  congr 1
  omega
theorem mulB_trim {k u : List UInt8} (hk : k.length = 32) (hu : u.length = 32) (x : UInt8) (hx : x.toNat % 128 = (u.getD 31 0).toNat % 128) : mulB (trimB k) (u.set 31 x) = mulB k u := by
  unfold mulB
  rw [trimB_twice hk, readU_flip hu x hx]
def secA : List UInt8 := List.replicate 32 0
def secB : List UInt8 := (List.replicate 32 0).set 3 7
theorem apart_num (P : Nat) (hP : P = 57896044618658097711785492504343953926634992332820282019728792003956564819949) (a b : Nat) (ha : a = leN (trimB secA)) (hb : b = leN (trimB secB)) :
    (Edw.ladN P 9 (Edw.bitsN 255 a)).2.1 % P ≠ 0 ∧ (Edw.ladN P 9 (Edw.bitsN 255 b)).2.1 % P ≠ 0 ∧ (Edw.ladN P 9 (Edw.bitsN 255 a)).1 * (Edw.ladN P 9 (Edw.bitsN 255 b)).2.1 % P ≠ (Edw.ladN P 9 (Edw.bitsN 255 b)).1 * (Edw.ladN P 9 (Edw.bitsN 255 a)).2.1 % P := by
  subst hP ha hb
  decide +kernel
/-- The shares of two secrets differ. -/
theorem fit_apart : mulB secA nineB ≠ mulB secB nineB := by
  obtain ⟨h1, h2, h3⟩ := apart_num _ rfl _ _ rfl rfl
  have h := Edw.multN_apart 9 _ _ h1 h2 h3
  intro e
  apply h
  have e2 := congrArg readU e
  unfold mulB at e2
  rwa [readU_leB (Edw.multN_lt _ _), readU_leB (Edw.multN_lt _ _), readU_nine] at e2
end Go.Proofs.Ytcnehbfcagghpaa
