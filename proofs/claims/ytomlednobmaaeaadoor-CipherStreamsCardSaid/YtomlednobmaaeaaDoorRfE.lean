/- The reference's rounds and the program's: the same bytes. -/
import Derived.Test.YtomlednobmaaeaaDoorRfD
namespace Go.Proofs.YtomlednobmaaeaaDoor
open Go Go.RowKit
open Aes (ot8 tw8)
def blkOf (s : Nat → BitVec 8) : List (BitVec 32) := [cvB (s 0) (s 1) (s 2) (s 3), cvB (s 4) (s 5) (s 6) (s 7), cvB (s 8) (s 9) (s 10) (s 11), cvB (s 12) (s 13) (s 14) (s 15)]
def byF (l : List (BitVec 32)) (i : Nat) : BitVec 8 := by4 (l.getD (i / 4) 0#32) (3 - i % 4)
theorem byF_blk {l : List (BitVec 32)} (h : l.length = 4) : blkOf (byF l) = l := by
  obtain ⟨a, b, c, d, rfl⟩ := len4 h
  show [cvB (by4 a 3) (by4 a 2) (by4 a 1) (by4 a 0), cvB (by4 b 3) (by4 b 2) (by4 b 1) (by4 b 0), cvB (by4 c 3) (by4 c 2) (by4 c 1) (by4 c 0), cvB (by4 d 3) (by4 d 2) (by4 d 1) (by4 d 0)] = _
  rw [← cv_surj, ← cv_surj, ← cv_surj, ← cv_surj]
theorem below16 {i : Nat} (h : i < 16) : i = 0 ∨ i = 1 ∨ i = 2 ∨ i = 3 ∨ i = 4 ∨ i = 5 ∨ i = 6 ∨ i = 7 ∨ i = 8 ∨ i = 9 ∨ i = 10 ∨ i = 11 ∨ i = 12 ∨ i = 13 ∨ i = 14 ∨ i = 15 := by omega
theorem blk_byF (s : Nat → BitVec 8) (i : Nat) (h : i < 16) : byF (blkOf s) i = s i := by
  rcases below16 h with rfl | rfl | rfl | rfl | rfl | rfl | rfl | rfl | rfl | rfl | rfl | rfl | rfl | rfl | rfl | rfl <;> simp [byF, blkOf, by4_cv]
theorem oth_blk (s : Nat → BitVec 8) : othW (blkOf s) = blkOf fun i => ot8 (s i) := by
  unfold blkOf othW
  simp only [othH_cv, othL_cv]
theorem sh_blk (s : Nat → BitVec 8) : shW (blkOf s) = blkOf fun i => s ((i + 4 * (i % 4)) % 16) := by
  unfold blkOf
  rw [sh_cv]
def mixF (s : Nat → BitVec 8) (i : Nat) : BitVec 8 := tw8 (s i ^^^ s (i - i % 4 + (i + 1) % 4)) ^^^ s (i - i % 4 + (i + 1) % 4) ^^^ s (i - i % 4 + (i + 2) % 4) ^^^ s (i - i % 4 + (i + 3) % 4)
theorem mix_blk (s : Nat → BitVec 8) : mixW (blkOf s) = blkOf (mixF s) := by
  unfold blkOf mixW
  simp only [List.map_cons, List.map_nil, mix_cv]
  rfl
theorem xor_blk (s t : Nat → BitVec 8) : xorW (blkOf s) (blkOf t) = blkOf fun i => s i ^^^ t i := by
  unfold blkOf xorW
  simp only [List.zipWith_cons_cons, List.zipWith_nil_right, cv_xor]
attribute [local irreducible] kyW
theorem key_blk {c : List (BitVec 32)} (hc : c.length = 4) (r : Nat) (hr : r < 11) : keyAt (kyW c) r = blkOf fun i => wV c (4 * r + i / 4) (i % 4) := by
  have hl := (keyAt_ok (kyW_len hc) r hr).1
  rw [← byF_blk hl]
  have : ∀ i, i < 16 → byF (keyAt (kyW c) r) i = wV c (4 * r + i / 4) (i % 4) := by
    intro i hi
    unfold byF wV KD keyAt
    refine congrArg (fun x => by4 x (3 - i % 4)) ?_
    rw [List.getD_eq_getElem?_getD, List.getElem?_take, if_pos (by omega), List.getElem?_drop, ← List.getD_eq_getElem?_getD, Nat.mul_comm r 4]
  unfold blkOf
  simp only [this 0 (by omega), this 1 (by omega), this 2 (by omega), this 3 (by omega), this 4 (by omega), this 5 (by omega), this 6 (by omega), this 7 (by omega), this 8 (by omega), this 9 (by omega), this 10 (by omega), this 11 (by omega), this 12 (by omega), this 13 (by omega), this 14 (by omega), this 15 (by omega)]
theorem tw8_xor (a b : BitVec 8) : tw8 (a ^^^ b) = tw8 a ^^^ tw8 b := by
  have hs : ∀ x y : Bool, Aes.sel (Bool.xor x y) 27#8 = Aes.sel x 27#8 ^^^ Aes.sel y 27#8 := by decide
  unfold Aes.tw8
  rw [BitVec.shiftLeft_xor_distrib, BitVec.getLsbD_xor, hs]
  generalize a <<< 1 = A
  generalize b <<< 1 = B
  generalize Aes.sel (a.getLsbD 7) 27#8 = C
  generalize Aes.sel (b.getLsbD 7) 27#8 = D
  rw [BitVec.xor_assoc, BitVec.xor_assoc, ← BitVec.xor_assoc B C D, BitVec.xor_comm B C, BitVec.xor_assoc]
section
variable (b : List UInt8) (c : List (BitVec 32))
/-- Byte i behind r rounds. -/
def stV (r i : Nat) : BitVec 8 := byF (ubS (colsW b) (kyW c) r) i
def sB (r i : Nat) : Nat := (stV b c r i).toNat
/-- The other one, its place turned. -/
def uB (r i : Nat) : Nat := sbT.getD (sB b c r ((i + 4 * (i % 4)) % 16)) 0
end
theorem sB_lt (b : List UInt8) (c : List (BitVec 32)) (r i : Nat) : sB b c r i < 256 := (stV b c r i).isLt
theorem uB_bv (b : List UInt8) (c : List (BitVec 32)) (r i : Nat) : uB b c r i = (ot8 (stV b c r ((i + 4 * (i % 4)) % 16))).toNat := by
  unfold uB sB
  rw [sb_bv]
theorem uB_lt (b : List UInt8) (c : List (BitVec 32)) (r i : Nat) : uB b c r i < 256 := by rw [uB_bv]; exact (ot8 _).isLt
theorem sB_zero {b : List UInt8} {c : List (BitVec 32)} (hb : b.length = 16) (hc : c.length = 4) (i : Nat) (hi : i < 16) : xN (b.getD i 0).toNat (wB c (i / 4) (i % 4)) = sB b c 0 i := by
  have hbk : colsW b = blkOf fun i => (b.getD i 0).toBitVec := by
    obtain ⟨a0, a1, a2, a3, a4, a5, a6, a7, a8, a9, a10, a11, a12, a13, a14, a15, rfl⟩ := len16 hb
    rfl
  unfold sB stV wB
  rw [ubS, hbk, key_blk hc 0 (by omega), xor_blk, blk_byF _ i hi, Nat.mul_zero, Nat.zero_add]
  exact xN_bv _ _
theorem sB_next {b : List UInt8} {c : List (BitVec 32)} (hb : b.length = 16) (hc : c.length = 4) (r i : Nat) (hr : r < 10) (hi : i < 16) :
    xN (xN (xN (xN (tmR 8 2 (uB b c r i) 0) (tmR 8 3 (uB b c r (i - i % 4 + (i + 1) % 4)) 0)) (uB b c r (i - i % 4 + (i + 2) % 4))) (uB b c r (i - i % 4 + (i + 3) % 4))) (wB c (4 * (r + 1) + i / 4) (i % 4)) = sB b c (r + 1) i := by
  have hl := ubS_len (colsW_len hb) (kyW_len hc) r (by omega)
  unfold sB wB
  rw [uB_bv, uB_bv, uB_bv, uB_bv, tm2_bv, tm3_bv, xN_bv, xN_bv, xN_bv, xN_bv]
  refine congrArg BitVec.toNat ?_
  have e : stV b c (r + 1) i = mixF (fun i => ot8 (byF (ubS (colsW b) (kyW c) r) ((i + 4 * (i % 4)) % 16))) i ^^^ wV c (4 * (r + 1) + i / 4) (i % 4) := by
    unfold stV
    rw [ubS]
    conv => lhs; rw [← byF_blk hl]
    rw [oth_blk, sh_blk, mix_blk, key_blk hc (r + 1) (by omega), xor_blk, blk_byF _ i hi]
  rw [e]
  unfold mixF
  rw [tw8_xor]
  unfold stV
  rw [BitVec.xor_assoc (tw8 _) (tw8 _) (ot8 _)]
theorem out_next {b : List UInt8} {c : List (BitVec 32)} (hb : b.length = 16) (hc : c.length = 4) (i : Nat) (hi : i < 16) :
    xN (uB b c 9 i) (wB c (40 + i / 4) (i % 4)) = ((aesK (kyW c) b).getD i 0).toNat := by
  have hl := ubS_len (colsW_len hb) (kyW_len hc) 9 (by omega)
  have e : udW (colsW b) (kyW c) = blkOf fun i => ot8 (byF (ubS (colsW b) (kyW c) 9) ((i + 4 * (i % 4)) % 16)) ^^^ wV c (40 + i / 4) (i % 4) := by
    unfold udW
    conv => lhs; rw [← byF_blk hl]
    rw [oth_blk, sh_blk, key_blk hc 10 (by omega), xor_blk]
  have hu : ∀ s : Nat → BitVec 8, ((unc (blkOf s)).getD i 0).toNat = (s i).toNat := by
    intro s
    unfold blkOf
    rcases below16 hi with rfl | rfl | rfl | rfl | rfl | rfl | rfl | rfl | rfl | rfl | rfl | rfl | rfl | rfl | rfl | rfl <;> simp [unc, by4_cv]
  unfold aesK
  rw [e, hu, uB_bv]
  unfold wB stV
  exact xN_bv _ _
end Go.Proofs.YtomlednobmaaeaaDoor
