/- The reference's bytes: times, others. -/
import Derived.Test.YtomlednobmaaeaaDoorCiL
namespace Go.Proofs.YtomlednobmaaeaaDoor
open Go Go.RowKit
theorem ofIntI (a : Nat) (ha : a < 9223372036854775808) : (BitVec.ofInt 64 (a : Int)).toNat = a := by
  rw [BitVec.ofInt_natCast, BitVec.toNat_ofNat]; exact Nat.mod_eq_of_lt (by omega)
theorem wrapI (a : Nat) (ha : a < 9223372036854775808) : IntKind.i64.wrap (a : Int) = (a : Int) := by
  rw [IntKind.wrap_i64]; omega
theorem i_xor (a b : Nat) (ha : a < 9223372036854775808) (hb : b < 9223372036854775808) : bits .xor .i64 (a : Int) (b : Int) = ((a ^^^ b : Nat) : Int) := by
  show IntKind.i64.wrap ((BitVec.ofInt 64 (a : Int) ^^^ BitVec.ofInt 64 (b : Int)).toNat : Int) = _
  rw [BitVec.toNat_xor, ofIntI a ha, ofIntI b hb]
  exact wrapI _ (Nat.xor_lt_two_pow (n := 63) ha hb)
theorem i_and (a b : Nat) (ha : a < 9223372036854775808) (hb : b < 9223372036854775808) : bits .and .i64 (a : Int) (b : Int) = ((a &&& b : Nat) : Int) := by
  show IntKind.i64.wrap ((BitVec.ofInt 64 (a : Int) &&& BitVec.ofInt 64 (b : Int)).toNat : Int) = _
  rw [BitVec.toNat_and, ofIntI a ha, ofIntI b hb]
  exact wrapI _ (Nat.and_lt_two_pow (n := 63) _ hb)
theorem i_or (a b : Nat) (ha : a < 9223372036854775808) (hb : b < 9223372036854775808) : bits .or .i64 (a : Int) (b : Int) = ((a ||| b : Nat) : Int) := by
  show IntKind.i64.wrap ((BitVec.ofInt 64 (a : Int) ||| BitVec.ofInt 64 (b : Int)).toNat : Int) = _
  rw [BitVec.toNat_or, ofIntI a ha, ofIntI b hb]
  exact wrapI _ (Nat.or_lt_two_pow (n := 63) ha hb)
def xN (a b : Nat) : Nat := a ^^^ b
def dblR (a : Nat) : Nat := if 255 < 2 * a then xN (2 * a) 283 else 2 * a
def tmR : Nat → Nat → Nat → Nat → Nat
  | 0, _, _, r => r
  | f + 1, a, b, r => if b = 0 then r else tmR f (dblR a) (b / 2) (if b % 2 = 1 then xN r a else r)
theorem xN_lt {a b n : Nat} (ha : a < 2 ^ n) (hb : b < 2 ^ n) : xN a b < 2 ^ n := Nat.xor_lt_two_pow ha hb
theorem dblR_lt : ∀ a, a < 256 → dblR a < 256 := by
  have : ∀ a : Fin 256, dblR a.val < 256 := by decide +kernel
  exact fun a h => this ⟨a, h⟩
theorem xN_val {a b : Nat} (ha : a < 9223372036854775808) (hb : b < 9223372036854775808) : bits .xor .i64 (a : Int) (b : Int) = ((xN a b : Nat) : Int) := i_xor a b ha hb
theorem tmR_zero (f a r : Nat) : tmR f a 0 r = r := by
  cases f <;> simp [tmR]
theorem tmR_step {f a b r R : Nat} (h : b ≠ 0) (hb : b < 2 ^ f) (hR : tmR f a b r = R) : ∃ f', f = f' + 1 ∧ tmR f' (dblR a) (b / 2) (if b % 2 = 1 then xN r a else r) = R ∧ b / 2 < 2 ^ f' := by
  cases f with
  | zero => simp at hb; omega
  | succ f =>
    refine ⟨f, rfl, ?_, by rw [Nat.pow_succ] at hb; omega⟩
    rw [← hR, tmR, if_neg h]
set_option maxRecDepth 20000 in
set_option maxHeartbeats 4000000 in
theorem rtm_any (a b : Nat) (w : World) (ha : a < 256) (hb : b < 256) :
    Calls Tryd.prog 21 #[.int .i64 (a : Int), .int .i64 (b : Int)] w fun e w' => e = .returned (.int .i64 ((tmR 8 a b 0 : Nat) : Int)) ∧ Kp0 w w' := by
  obtain ⟨R, hR⟩ : ∃ R, R = tmR 8 a b 0 := ⟨_, rfl⟩
  have HE : Hid (tmR 8 a b 0 = R ∧ b < 2 ^ 8 ∧ a < 256) := Lib.hid ⟨hR.symm, hb, ha⟩
  rw [← hR]
  clear hR ha hb
  go_enter Tryd.func21, Tryd.ntmps21
  go_wp2
  go_loopg [0, 1, 5] 8 (fun g x y z wr => ∃ (a b r : Nat), x = .int .i64 (a : Int) ∧ y = .int .i64 (b : Int) ∧ z = .int .i64 (r : Int) ∧ (tmR g a b r = R ∧ b < 2 ^ g ∧ a < 256 ∧ r < 256) ∧ g ≤ 8 ∧ wr = w)
  case atStart => exact ⟨a, b, 0, rfl, rfl, rfl, ⟨HE.out.1, HE.out.2.1, HE.out.2.2, by omega⟩, Nat.le_refl _, rfl⟩
  case round =>
    obtain ⟨a, b, r, rfl, rfl, rfl, hinv, hg, rfl⟩ := hrel
    have HI := Lib.hid hinv
    clear HE hinv
    by_cases h : b = 0
    · subst h
      have HR : Hid (r = R) := Lib.hid (by rw [← HI.out.1, tmR_zero])
      clear HI
      have hrR := HR.out
      subst hrR
      go_wp2
      go_ret
      exact ⟨rfl, Kp.refl _ _⟩
    · obtain ⟨f, hf, h1, h2⟩ := tmR_step h HI.out.2.1 HI.out.1
      subst hf
      have hb0 : 0 < (b : Int) := by omega
      obtain ⟨b2, hb2⟩ : ∃ b2, b2 = b / 2 := ⟨_, rfl⟩
      rw [← hb2] at h1 h2
      have hd : (b : Int).tdiv 2 = (b2 : Int) := by rw [Int.tdiv_eq_ediv_of_nonneg (by omega)]; omega
      have ha256 := HI.out.2.2.1
      have hr256 := HI.out.2.2.2
      have HD := Lib.hid (dblR_lt a ha256)
      obtain ⟨d, hdd⟩ : ∃ d, d = dblR a := ⟨_, rfl⟩
      have hdx : 255 < (a : Int) * 2 → bits .xor .i64 ((a : Int) * 2) 283 = (d : Int) := fun h255 => by
        rw [hdd, dblR, if_pos (by omega), show ((a : Int) * 2) = ((2 * a : Nat) : Int) by omega]
        exact xN_val (a := 2 * a) (b := 283) (by omega) (by omega)
      have hdy : ¬ 255 < (a : Int) * 2 → (a : Int) * 2 = (d : Int) := fun h255 => by
        rw [hdd, dblR, if_neg (by omega)]
        omega
      have hxr := xN_val (a := r) (b := a) (by omega) (by omega)
      have HXL : Hid (xN r a < 256) := Lib.hid (xN_lt (n := 8) (by omega) (by omega))
      obtain ⟨q, hq⟩ : ∃ q, q = xN r a := ⟨_, rfl⟩
      rw [← hq] at hxr HXL
      rw [← hdd] at h1 HD
      have hbb : b < 256 := Nat.lt_of_lt_of_le HI.out.2.1 (Nat.pow_le_pow_right (by omega) hg)
      have hb3 : (b2 : Int) < 256 := by omega
      by_cases ho : b % 2 = 1
      · rw [if_pos ho, ← hq] at h1
        have hm : (b : Int).tmod 2 = 1 := by rw [Int.tmod_eq_emod_of_nonneg (by omega)]; omega
        have H1 := Lib.hid h1
        have H2 := Lib.hid h2
        clear h h1 h2 hb2 hq hdd ho HI
        by_cases h255 : 255 < (a : Int) * 2
        · have hx := hdx h255
          clear hdx hdy
          go_wp2
          go_roundg f
          case measure => omega
          case rel => exact ⟨d, b2, q, rfl, rfl, rfl, ⟨H1.out, H2.out, HD.out, HXL.out⟩, by omega, rfl⟩
        · have hx := hdy h255
          clear hdx hdy
          go_wp2
          go_roundg f
          case measure => omega
          case rel => exact ⟨d, b2, q, by go_num, rfl, rfl, ⟨H1.out, H2.out, HD.out, HXL.out⟩, by omega, rfl⟩
      · rw [if_neg ho] at h1
        have hm : (b : Int).tmod 2 = 0 := by rw [Int.tmod_eq_emod_of_nonneg (by omega)]; omega
        have H1 := Lib.hid h1
        have H2 := Lib.hid h2
        have HI2 := Lib.hid hr256
        clear h h1 h2 hb2 hq hdd ho HI
        by_cases h255 : 255 < (a : Int) * 2
        · have hx := hdx h255
          clear hdx hdy
          go_wp2
          go_roundg f
          case measure => omega
          case rel => exact ⟨d, b2, r, rfl, rfl, rfl, ⟨H1.out, H2.out, HD.out, HI2.out⟩, by omega, rfl⟩
        · have hx := hdy h255
          clear hdx hdy
          go_wp2
          go_roundg f
          case measure => omega
          case rel => exact ⟨d, b2, r, by go_num, rfl, rfl, ⟨H1.out, H2.out, HD.out, HI2.out⟩, by omega, rfl⟩
end Go.Proofs.YtomlednobmaaeaaDoor
