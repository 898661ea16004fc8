/- The document's digits and encoding. -/
import Derived.Test.YtmmbhmfbhleglaaDoorFitF
namespace Go.Proofs.YtmmbhmfbhleglaaDoor
open Go Go.RowKit
def digS (n : Nat) (s : List UInt8) : List UInt8 := if n = 0 then s else Lib.decDigits n ++ s
theorem digS_step {n : Nat} (h : n ≠ 0) (s : List UInt8) : digS (n / 10) (UInt8.ofNat (48 + n % 10) :: s) = digS n s := by
  unfold digS
  rw [if_neg h]
  by_cases h1 : n < 10
  · rw [if_pos (by omega), Lib.decDigits_one h1, show n % 10 = n by omega]
    rfl
  · rw [if_neg (by omega)]
    conv => rhs; rw [Lib.decDigits, dif_neg h1]
    simp
theorem one_size {s : ByteArray} {c : UInt8} (h : s.toList = [c]) : (s.size : Int) ≤ 20 := by
  have h1 := size_toList s
  rw [h] at h1
  have h2 : ([c] : List UInt8).length = 1 := rfl
  omega
structure DInv (R : List UInt8) (w wr : World) (k : Nat) (t : ByteArray) : Prop where
  eq : digS k t.toList = R
  kp : Kp0 w wr
theorem DInv.size {R : List UInt8} {w wr : World} {k : Nat} {t : ByteArray} (h : DInv R w wr k t) : t.size ≤ R.length := by
  have h1 := h.eq
  have h2 := size_toList t
  rw [← h1]
  unfold digS
  split
  · omega
  · rw [List.length_append]; omega
end Go.Proofs.YtmmbhmfbhleglaaDoor
