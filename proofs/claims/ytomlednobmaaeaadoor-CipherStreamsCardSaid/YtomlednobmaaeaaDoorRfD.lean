/- The reference's block and the program's: the same bytes. -/
import Derived.Test.YtomlednobmaaeaaDoorRfC
namespace Go.Proofs.YtomlednobmaaeaaDoor
open Go Go.RowKit
open Aes (ln otB ot8 twB tw8)
/-- A list by its places. -/
def rm {α : Type} (N : Nat) (f : Nat → α) : List α := (List.range N).map f
theorem rm_len {α : Type} (N : Nat) (f : Nat → α) : (rm N f).length = N := by simp [rm]
theorem rm_get {α : Type} {N n : Nat} (f : Nat → α) (h : n < N) : (rm N f)[n]? = some (f n) := by simp [rm, h]
theorem rm_set {α : Type} {N m : Nat} {f g : Nat → α} {v : α} (h : ∀ n, n < N → n ≠ m → f n = g n) (hv : g m = v) : (rm N f).set m v = rm N g := by
  apply List.ext_getElem?
  intro n
  rw [List.getElem?_set]
  by_cases hn : n < N
  · by_cases e : m = n
    · subst e
      rw [if_pos rfl, if_pos (by rw [rm_len]; exact hn), rm_get g hn, hv]
    · rw [if_neg e, rm_get f hn, rm_get g hn, h n hn (fun e2 => e e2.symm)]
  · have h1 : (rm N f)[n]? = none := List.getElem?_eq_none (by rw [rm_len]; omega)
    have h2 : (rm N g)[n]? = none := List.getElem?_eq_none (by rw [rm_len]; omega)
    rw [h1, h2]
    split
    · rw [if_neg (by rw [rm_len]; omega)]
    · rfl
theorem rm_ext {α : Type} {N : Nat} {f g : Nat → α} (h : ∀ n, n < N → f n = g n) : rm N f = rm N g := by
  apply List.ext_getElem?
  intro n
  by_cases hn : n < N
  · rw [rm_get f hn, rm_get g hn, h n hn]
  · rw [List.getElem?_eq_none (by rw [rm_len]; omega), List.getElem?_eq_none (by rw [rm_len]; omega)]
theorem kst_stab (c : List (BitVec 32)) (m p : Nat) (h : p < m + 4) : ∀ d, (kst c (m + d)).1[p]? = (kst c m).1[p]?
  | 0 => rfl
  | d + 1 => by rw [← Nat.add_assoc, kst_old c (m + d) p (by omega), kst_stab c m p h d]
def KD (c : List (BitVec 32)) (j : Nat) : BitVec 32 := (kyW c).getD j 0#32
theorem KD_at (c : List (BitVec 32)) (m p : Nat) (h : p < m + 4) (hm : m ≤ 40) : KD c p = (kst c m).1.getD p 0#32 := by
  unfold KD kyW
  rw [List.getD_eq_getElem?_getD, List.getD_eq_getElem?_getD, show 40 = m + (40 - m) by omega, kst_stab c m p h]
theorem kst_t {c : List (BitVec 32)} (hc : c.length = 4) (m : Nat) (hm : m < 40) : (kst c (m + 1)).2 = KD c (m + 4) := by
  rw [KD_at c (m + 1) (m + 4) (by omega) (by omega)]
  conv => rhs; rw [kst]
  simp only []
  rw [List.getD_eq_getElem?_getD, List.getElem?_set_self (by rw [kst_len hc]; omega)]
  rfl
theorem KD_rec {c : List (BitVec 32)} (hc : c.length = 4) (m : Nat) (hm : m < 40) : KD c (m + 4) = (if m % 4 = 0 then rt3 (KD c (m + 3)) (pwF (m / 4)) else KD c (m + 3)) ^^^ KD c m := by
  rw [← kst_t hc m hm, kst]
  simp only []
  rw [KD_at c m (m + 3) (by omega) (by omega), KD_at c m m (by omega) (by omega)]
  unfold kx
  congr 1
  by_cases h : m % 4 = 0
  · rw [if_pos h, if_pos h]
  · rw [if_neg h, if_neg h]
    obtain ⟨q, rfl⟩ : ∃ q, m = q + 1 := ⟨m - 1, by omega⟩
    rw [kst_t hc q (by omega), KD_at c (q + 1) (q + 4) (by omega) (by omega)]
theorem KD_small {c : List (BitVec 32)} (hc : c.length = 4) (j : Nat) (hj : j < 4) : KD c j = c.getD j 0#32 := by
  rw [KD_at c 0 j (by omega) (by omega), kst]
  simp only []
  rw [List.getD_eq_getElem?_getD, List.getElem?_append_left (by omega), ← List.getD_eq_getElem?_getD]
/-- Byte k of word j. -/
def wV (c : List (BitVec 32)) (j k : Nat) : BitVec 8 := by4 (KD c j) (3 - k)
def cR : Nat → Nat
  | 0 => 1
  | i + 1 => if 4 ≤ i ∧ i % 4 = 0 then tmR 8 (cR i) 2 0 else cR i
theorem cR_lt : ∀ i, cR i < 256
  | 0 => by decide
  | i + 1 => by
    rw [cR]
    split
    · exact tmR_lt _ _ _ _ (cR_lt i) (by omega)
    · exact cR_lt i
theorem pw_cR : ∀ i : Fin 10, ∀ k : Fin 4, ln (pwF i.val) k.val = if k.val = 3 then BitVec.ofNat 8 (cR (4 * (i.val + 1))) else 0#8 := by decide +kernel
theorem by4_rt3 (x : BitVec 32) (p : BitVec 64) {k : Nat} (hk : k < 4) : by4 (rt3 x p) k = ot8 (by4 (rot x 8) k) ^^^ ln p k := by
  unfold rt3
  rw [by4_trunc _ hk]
  unfold rt2
  rw [Aes.ln_xor, Aes.ln_ot _ (by omega)]
  unfold rt1
  rw [ln_widen _ hk]
theorem rot_byte (x : BitVec 32) (k : Nat) (hk : k < 4) : by4 (rot x 8) (3 - k) = by4 x (3 - (k + 1) % 4) := by
  have h : k = 0 ∨ k = 1 ∨ k = 2 ∨ k = 3 := by omega
  rcases h with rfl | rfl | rfl | rfl
  · exact (by4_rot x).1
  · exact (by4_rot x).2.1
  · exact (by4_rot x).2.2.1
  · exact (by4_rot x).2.2.2
theorem xN_bv (x y : BitVec 8) : xN x.toNat y.toNat = (x ^^^ y).toNat := (BitVec.toNat_xor x y).symm
theorem sb_bv (x : BitVec 8) : sbT.getD x.toNat 0 = (ot8 x).toNat := by
  have hx : x.toNat < 256 := x.isLt
  rw [sb_tab, List.getD_eq_getElem?_getD, List.getElem?_map, List.getElem?_range hx]
  simp
theorem tm2_bv (x : BitVec 8) : tmR 8 2 x.toNat 0 = (tw8 x).toNat := by
  have h : ∀ n : Fin 256, tmR 8 2 n.val 0 = (tw8 (BitVec.ofNat 8 n.val)).toNat := by decide +kernel
  have := h ⟨x.toNat, x.isLt⟩
  simpa using this
theorem tm3_bv (x : BitVec 8) : tmR 8 3 x.toNat 0 = (tw8 x ^^^ x).toNat := by
  have h : ∀ n : Fin 256, tmR 8 3 n.val 0 = (tw8 (BitVec.ofNat 8 n.val) ^^^ BitVec.ofNat 8 n.val).toNat := by decide +kernel
  have := h ⟨x.toNat, x.isLt⟩
  simpa using this
def wB (c : List (BitVec 32)) (j k : Nat) : Nat := (wV c j k).toNat
theorem wB_lt (c : List (BitVec 32)) (j k : Nat) : wB c j k < 256 := (wV c j k).isLt
theorem wB_key {key : List UInt8} (h : key.length = 16) (i k : Nat) (hi : i < 4) (hk : k < 4) : wB (colsW key) i k = (key.getD (4 * i + k) 0).toNat := by
  unfold wB wV
  rw [KD_small (colsW_len h) i hi]
  obtain ⟨a0, a1, a2, a3, a4, a5, a6, a7, a8, a9, a10, a11, a12, a13, a14, a15, rfl⟩ := len16 h
  have h1 : i = 0 ∨ i = 1 ∨ i = 2 ∨ i = 3 := by omega
  have h2 : k = 0 ∨ k = 1 ∨ k = 2 ∨ k = 3 := by omega
  rcases h1 with rfl | rfl | rfl | rfl <;> rcases h2 with rfl | rfl | rfl | rfl <;> simp [colsW, cv, by4_cv]
theorem wB_x {c : List (BitVec 32)} (hc : c.length = 4) (i k : Nat) (h4 : 4 ≤ i) (hi : i < 44) (hm : i % 4 ≠ 0) : xN (wB c (i - 4) k) (wB c (i - 1) k) = wB c i k := by
  unfold wB
  rw [xN_bv]
  congr 1
  unfold wV
  have := KD_rec hc (i - 4) (by omega)
  rw [show i - 4 + 4 = i by omega, show i - 4 + 3 = i - 1 by omega, if_neg (by omega)] at this
  rw [this, by4_xor, BitVec.xor_comm]
/-- Ahead of the power of x. -/
def wP (c : List (BitVec 32)) (i k : Nat) : Nat := if 4 ≤ i ∧ i % 4 = 0 ∧ k = 0 then xN (wB c i 0) (cR i) else wB c i k
theorem xN_self (x y : Nat) : xN (xN x y) y = x := by
  unfold xN
  rw [Nat.xor_assoc, Nat.xor_self, Nat.xor_zero]
theorem wP_lt (c : List (BitVec 32)) (i k : Nat) : wP c i k < 256 := by
  unfold wP
  split
  · exact xN_lt (n := 8) (wB_lt _ _ _) (cR_lt i)
  · exact wB_lt _ _ _
theorem xor_sw (A B C : BitVec 8) : B ^^^ A = ((A ^^^ C) ^^^ B) ^^^ C := by
  rw [BitVec.xor_assoc, BitVec.xor_assoc, BitVec.xor_comm B C, ← BitVec.xor_assoc C C B, BitVec.xor_self, BitVec.zero_xor, BitVec.xor_comm]
attribute [local irreducible] ot8 cR wV
theorem wB_s {c : List (BitVec 32)} (hc : c.length = 4) (i k : Nat) (h4 : 4 ≤ i) (hi : i < 44) (hm : i % 4 = 0) (hk : k < 4) : xN (wB c (i - 4) k) (sbT.getD (wB c (i - 1) ((k + 1) % 4)) 0) = wP c i k := by
  have hr := KD_rec hc (i - 4) (by omega)
  rw [show i - 4 + 4 = i by omega, show i - 4 + 3 = i - 1 by omega, if_pos (by omega)] at hr
  have hp := pw_cR ⟨(i - 4) / 4, by omega⟩ ⟨3 - k, by omega⟩
  simp only [show 4 * ((i - 4) / 4 + 1) = i by omega] at hp
  have e : wV c i k = (ot8 (wV c (i - 1) ((k + 1) % 4)) ^^^ ln (pwF ((i - 4) / 4)) (3 - k)) ^^^ wV c (i - 4) k := by
    unfold wV
    rw [hr, by4_xor, by4_rt3 _ _ (by omega), rot_byte _ k hk]
  have eb : xN (wB c (i - 4) k) (sbT.getD (wB c (i - 1) ((k + 1) % 4)) 0) = (wV c (i - 4) k ^^^ ot8 (wV c (i - 1) ((k + 1) % 4))).toNat := by
    unfold wB
    rw [sb_bv, xN_bv]
  rw [eb]
  unfold wP
  by_cases h0 : k = 0
  · subst h0
    rw [if_pos ⟨h4, hm, rfl⟩]
    rw [if_pos rfl] at hp
    unfold wB
    have hcn : cR i = (BitVec.ofNat 8 (cR i)).toNat := by
      rw [BitVec.toNat_ofNat, Nat.mod_eq_of_lt (cR_lt i)]
    rw [hcn, xN_bv, e, hp]
    exact congrArg BitVec.toNat (xor_sw (ot8 (wV c (i - 1) ((0 + 1) % 4))) (wV c (i - 4) 0) (BitVec.ofNat 8 (cR i)))
  · rw [if_neg (fun h => h0 h.2.2)]
    rw [if_neg (by omega)] at hp
    unfold wB
    rw [e, hp, BitVec.xor_zero, BitVec.xor_comm]
theorem wP_not {c : List (BitVec 32)} {i k : Nat} (h : ¬ (4 ≤ i ∧ i % 4 = 0 ∧ k = 0)) : wP c i k = wB c i k := if_neg h
theorem wP_c {c : List (BitVec 32)} {i : Nat} (h : 4 ≤ i) (hm : i % 4 = 0) : xN (wP c i 0) (cR i) = wB c i 0 := by
  rw [wP, if_pos ⟨h, hm, rfl⟩, xN_self]
end Go.Proofs.YtomlednobmaaeaaDoor
