/- Bytes as polynomials, eight in a number. Nothing of the program stands here. Package cipher: its sums of bytes. Package cipher: blocks. -/
import Derived.Test.YtnbfedmecmdjlaaDoorChecked
import Derived.Test.YtnbfedmecmdjlaaDoorGa
import Derived.Test.YtnbfedmecmdjlaaDoorGb
import Derived.WalkKit
import Derived.BigRegion
import Derived.Deep.DeepCutAuto
import Derived.Deep.LoopGhost
import Derived.Lib.Hide
namespace Go.Proofs.YtnbfedmecmdjlaaDoor.Aes
abbrev LOW : BitVec 64 := 0x0101010101010101#64
@[irreducible] def twB (w : BitVec 64) : BitVec 64 := ((w <<< 1) &&& ~~~LOW) ^^^ ((w >>> 7 &&& LOW) * 27#64)
def lowN (n : Nat) : BitVec 64 := LOW * ((1#64 <<< n) - 1#64)
@[irreducible] def rlB (w : BitVec 64) (n : Nat) : BitVec 64 := ((w <<< n) &&& ~~~lowN n) ||| ((w >>> (8 - n)) &&& lowN n)
def sqs : List (BitVec 64) := [0x01#64, 0x04#64, 0x10#64, 0x40#64, 0x1B#64, 0x6C#64, 0xAB#64, 0x9A#64]
def sqF (w : BitVec 64) : Nat → BitVec 64
  | 0 => 0#64
  | k + 1 => sqF w k ^^^ ((w >>> k &&& LOW) * sqs.getD k 0#64)
def tmF (v w : BitVec 64) : Nat → BitVec 64
  | 0 => 0#64
  | k + 1 => twB (tmF v w k) ^^^ (v &&& ((w >>> (7 - k) &&& LOW) * 255#64))
@[irreducible] def sqB (w : BitVec 64) : BitVec 64 := sqF w 8
@[irreducible] def tmB (v w : BitVec 64) : BitVec 64 := tmF v w 8
@[irreducible] def ivB (w : BitVec 64) : BitVec 64 :=
  let to2 := sqB w
  let to3 := tmB to2 w
  let to12 := sqB (sqB to3)
  let to15 := tmB to12 to3
  let to240 := sqB (sqB (sqB (sqB to15)))
  tmB (tmB to240 to12) to2
@[irreducible] def otB (x : BitVec 64) : BitVec 64 :=
  let w := ivB x
  w ^^^ rlB w 1 ^^^ rlB w 2 ^^^ rlB w 3 ^^^ rlB w 4 ^^^ 0x6363636363636363#64

/-- A byte of a number. -/
def ln (w : BitVec 64) (i : Nat) : BitVec 8 := w.extractLsb' (8 * i) 8
theorem ln_ext {a b : BitVec 64} (h : ∀ i, i < 8 → ln a i = ln b i) : a = b := by
  apply BitVec.eq_of_getLsbD_eq
  intro j hj
  have := h (j / 8) (by omega)
  have h2 : (ln a (j / 8)).getLsbD (j % 8) = (ln b (j / 8)).getLsbD (j % 8) := by rw [this]
  simp only [ln, BitVec.getLsbD_extractLsb'] at h2
  have e : 8 * (j / 8) + j % 8 = j := by omega
  have e2 : j % 8 < 8 := by omega
  simpa [e, e2] using h2
theorem ln_xor (a b : BitVec 64) (i : Nat) : ln (a ^^^ b) i = ln a i ^^^ ln b i := by
  apply BitVec.eq_of_getLsbD_eq
  intro j hj
  simp [ln, hj]
theorem ln_and (a b : BitVec 64) (i : Nat) : ln (a &&& b) i = ln a i &&& ln b i := by
  apply BitVec.eq_of_getLsbD_eq
  intro j hj
  simp [ln, hj]
theorem ln_or (a b : BitVec 64) (i : Nat) : ln (a ||| b) i = ln a i ||| ln b i := by
  apply BitVec.eq_of_getLsbD_eq
  intro j hj
  simp [ln, hj]
def bt (b : Bool) (k : Nat) : BitVec 64 := bif b then 1#64 <<< k else 0#64
def spr (b0 b1 b2 b3 b4 b5 b6 b7 : Bool) : BitVec 64 := bt b0 0 ||| bt b1 8 ||| bt b2 16 ||| bt b3 24 ||| bt b4 32 ||| bt b5 40 ||| bt b6 48 ||| bt b7 56
theorem and_low (y : BitVec 64) : y &&& LOW = spr (y.getLsbD 0) (y.getLsbD 8) (y.getLsbD 16) (y.getLsbD 24) (y.getLsbD 32) (y.getLsbD 40) (y.getLsbD 48) (y.getLsbD 56) := by
  have e : ∀ k, y &&& (1#64 <<< k) = bt (y.getLsbD k) k := by
    intro k
    apply BitVec.eq_of_getLsbD_eq
    intro j hj
    unfold bt
    by_cases h : j = k
    · subst h
      cases hy : y.getLsbD j <;> simp [hj, hy, -BitVec.getLsbD_eq_getElem]
    · have : (1#64 <<< k).getLsbD j = false := by
        rw [BitVec.getLsbD_shiftLeft]
        by_cases hk : j < k
        · simp [hk]
        · simp [hk, hj]; omega
      cases hy : y.getLsbD k <;> simp [this]
  have : LOW = 1#64 <<< 0 ||| 1#64 <<< 8 ||| 1#64 <<< 16 ||| 1#64 <<< 24 ||| 1#64 <<< 32 ||| 1#64 <<< 40 ||| 1#64 <<< 48 ||| 1#64 <<< 56 := by decide
  rw [this]
  simp only [BitVec.and_or_distrib_left, e]
  rfl
def sel (b : Bool) (c : BitVec 8) : BitVec 8 := bif b then c else 0#8
def nth8 (b0 b1 b2 b3 b4 b5 b6 b7 : Bool) : Nat → Bool
  | 0 => b0 | 1 => b1 | 2 => b2 | 3 => b3 | 4 => b4 | 5 => b5 | 6 => b6 | _ => b7
def mulOk (c : BitVec 8) : Prop := ∀ b0 b1 b2 b3 b4 b5 b6 b7 : Bool, ∀ i : Fin 8, ln (spr b0 b1 b2 b3 b4 b5 b6 b7 * c.setWidth 64) i.val = sel (nth8 b0 b1 b2 b3 b4 b5 b6 b7 i.val) c
instance (c : BitVec 8) : Decidable (mulOk c) := by unfold mulOk; infer_instance
theorem ln_mul {c : BitVec 8} (hc : mulOk c) (y : BitVec 64) {i : Nat} (hi : i < 8) : ln ((y &&& LOW) * c.setWidth 64) i = sel ((ln y i).getLsbD 0) c := by
  rw [and_low, hc _ _ _ _ _ _ _ _ ⟨i, hi⟩]
  congr 1
  have : i = 0 ∨ i = 1 ∨ i = 2 ∨ i = 3 ∨ i = 4 ∨ i = 5 ∨ i = 6 ∨ i = 7 := by omega
  rcases this with rfl | rfl | rfl | rfl | rfl | rfl | rfl | rfl <;> simp [nth8, ln]
theorem ok27 : mulOk 27#8 := by decide +kernel
theorem ok255 : mulOk 255#8 := by decide +kernel
theorem ok1 : mulOk 1#8 := by decide +kernel
theorem ok4 : mulOk 4#8 := by decide +kernel
theorem ok16 : mulOk 16#8 := by decide +kernel
theorem ok64 : mulOk 64#8 := by decide +kernel
theorem ok108 : mulOk 0x6C#8 := by decide +kernel
theorem ok171 : mulOk 0xAB#8 := by decide +kernel
theorem ok154 : mulOk 0x9A#8 := by decide +kernel

def tw8 (b : BitVec 8) : BitVec 8 := (b <<< 1) ^^^ sel (b.getLsbD 7) 27#8
def rl8 (b : BitVec 8) (n : Nat) : BitVec 8 := (b <<< n) ||| (b >>> (8 - n))
def sq8s : List (BitVec 8) := [0x01#8, 0x04#8, 0x10#8, 0x40#8, 0x1B#8, 0x6C#8, 0xAB#8, 0x9A#8]
def sq8F (w : BitVec 8) : Nat → BitVec 8
  | 0 => 0#8
  | k + 1 => sq8F w k ^^^ sel (w.getLsbD k) (sq8s.getD k 0#8)
def tm8F (v w : BitVec 8) : Nat → BitVec 8
  | 0 => 0#8
  | k + 1 => tw8 (tm8F v w k) ^^^ sel (w.getLsbD (7 - k)) v
def sq8 (w : BitVec 8) : BitVec 8 := sq8F w 8
def tm8 (v w : BitVec 8) : BitVec 8 := tm8F v w 8
def iv8 (w : BitVec 8) : BitVec 8 :=
  let to2 := sq8 w
  let to3 := tm8 to2 w
  let to12 := sq8 (sq8 to3)
  let to15 := tm8 to12 to3
  let to240 := sq8 (sq8 (sq8 (sq8 to15)))
  tm8 (tm8 to240 to12) to2
def ot8 (x : BitVec 8) : BitVec 8 :=
  let w := iv8 x
  w ^^^ rl8 w 1 ^^^ rl8 w 2 ^^^ rl8 w 3 ^^^ rl8 w 4 ^^^ 0x63#8

theorem lnbit (w : BitVec 64) {i j : Nat} (hj : j < 8) : (ln w i).getLsbD j = w.getLsbD (8 * i + j) := by simp [ln, hj]
theorem shr_bit (w : BitVec 64) {i k : Nat} (_ : i < 8) (hk : k < 8) : (ln (w >>> k) i).getLsbD 0 = (ln w i).getLsbD k := by
  rw [lnbit _ (by omega), lnbit _ hk, BitVec.getLsbD_ushiftRight]
  congr 1
  omega
theorem ln_tw (w : BitVec 64) {i : Nat} (hi : i < 8) : ln (twB w) i = tw8 (ln w i) := by
  unfold twB tw8
  rw [ln_xor, show (27#64) = (27#8).setWidth 64 by decide, ln_mul ok27 _ hi, shr_bit w hi (by omega)]
  congr 1
  apply BitVec.eq_of_getLsbD_eq
  intro j hj
  have hx : i = 0 ∨ i = 1 ∨ i = 2 ∨ i = 3 ∨ i = 4 ∨ i = 5 ∨ i = 6 ∨ i = 7 := by omega
  have hy : j = 0 ∨ j = 1 ∨ j = 2 ∨ j = 3 ∨ j = 4 ∨ j = 5 ∨ j = 6 ∨ j = 7 := by omega
  rcases hx with rfl | rfl | rfl | rfl | rfl | rfl | rfl | rfl <;> rcases hy with rfl | rfl | rfl | rfl | rfl | rfl | rfl | rfl <;> simp [ln, LOW]
theorem ln_rl1 (n : Nat) (hn : n = 1 ∨ n = 2 ∨ n = 3 ∨ n = 4) (w : BitVec 64) {i : Nat} (hi : i < 8) : ln (rlB w n) i = rl8 (ln w i) n := by
  unfold rlB rl8
  apply BitVec.eq_of_getLsbD_eq
  intro j hj
  have h1 : lowN 1 = 0x0101010101010101#64 := by decide
  have h2 : lowN 2 = 0x0303030303030303#64 := by decide
  have h3 : lowN 3 = 0x0707070707070707#64 := by decide
  have h4 : lowN 4 = 0x0F0F0F0F0F0F0F0F#64 := by decide
  have hx : i = 0 ∨ i = 1 ∨ i = 2 ∨ i = 3 ∨ i = 4 ∨ i = 5 ∨ i = 6 ∨ i = 7 := by omega
  have hy : j = 0 ∨ j = 1 ∨ j = 2 ∨ j = 3 ∨ j = 4 ∨ j = 5 ∨ j = 6 ∨ j = 7 := by omega
  rcases hn with rfl | rfl | rfl | rfl <;> rcases hx with rfl | rfl | rfl | rfl | rfl | rfl | rfl | rfl <;> rcases hy with rfl | rfl | rfl | rfl | rfl | rfl | rfl | rfl <;> simp [ln, h1, h2, h3, h4]
theorem ln_and255 (v y : BitVec 64) {i : Nat} (hi : i < 8) : ln (v &&& ((y &&& LOW) * 255#64)) i = sel ((ln y i).getLsbD 0) (ln v i) := by
  rw [ln_and, show (255#64) = (255#8).setWidth 64 by decide, ln_mul ok255 _ hi]
  cases (ln y i).getLsbD 0
  · simp [sel]
  · simp only [sel, cond_true]
    exact BitVec.and_allOnes
theorem ln_tmF (v w : BitVec 64) {i : Nat} (hi : i < 8) : ∀ k, k ≤ 8 → ln (tmF v w k) i = tm8F (ln v i) (ln w i) k
  | 0, _ => by simp [tmF, tm8F, ln]
  | k + 1, hk => by
    rw [tmF, tm8F, ln_xor, ln_tw _ hi, ln_tmF v w hi k (by omega), ln_and255 _ _ hi, shr_bit w hi (by omega)]
theorem ln_tm (v w : BitVec 64) {i : Nat} (hi : i < 8) : ln (tmB v w) i = tm8 (ln v i) (ln w i) := by
  unfold tmB
  exact ln_tmF v w hi 8 (by omega)
theorem sq_len (k : Nat) (hk : k < 8) : mulOk (sq8s.getD k 0#8) ∧ sqs.getD k 0#64 = (sq8s.getD k 0#8).setWidth 64 := by
  have hx : k = 0 ∨ k = 1 ∨ k = 2 ∨ k = 3 ∨ k = 4 ∨ k = 5 ∨ k = 6 ∨ k = 7 := by omega
  rcases hx with rfl | rfl | rfl | rfl | rfl | rfl | rfl | rfl
  · exact ⟨ok1, by decide⟩
  · exact ⟨ok4, by decide⟩
  · exact ⟨ok16, by decide⟩
  · exact ⟨ok64, by decide⟩
  · exact ⟨ok27, by decide⟩
  · exact ⟨ok108, by decide⟩
  · exact ⟨ok171, by decide⟩
  · exact ⟨ok154, by decide⟩
theorem ln_sqF (w : BitVec 64) {i : Nat} (hi : i < 8) : ∀ k, k ≤ 8 → ln (sqF w k) i = sq8F (ln w i) k
  | 0, _ => by simp [sqF, sq8F, ln]
  | k + 1, hk => by
    rw [sqF, sq8F, ln_xor, ln_sqF w hi k (by omega), (sq_len k (by omega)).2, ln_mul (sq_len k (by omega)).1 _ hi, shr_bit w hi (by omega)]
theorem ln_sq (w : BitVec 64) {i : Nat} (hi : i < 8) : ln (sqB w) i = sq8 (ln w i) := by
  unfold sqB
  exact ln_sqF w hi 8 (by omega)
theorem ln_iv (w : BitVec 64) {i : Nat} (hi : i < 8) : ln (ivB w) i = iv8 (ln w i) := by
  unfold ivB iv8
  simp only [ln_tm _ _ hi, ln_sq _ hi]
theorem ln_ot (w : BitVec 64) {i : Nat} (hi : i < 8) : ln (otB w) i = ot8 (ln w i) := by
  unfold otB ot8
  have h63 : ln 0x6363636363636363#64 i = 0x63#8 := by
    have hx : i = 0 ∨ i = 1 ∨ i = 2 ∨ i = 3 ∨ i = 4 ∨ i = 5 ∨ i = 6 ∨ i = 7 := by omega
    rcases hx with rfl | rfl | rfl | rfl | rfl | rfl | rfl | rfl <;> decide
  simp only [ln_xor, ln_iv _ hi, ln_rl1 1 (by simp) _ hi, ln_rl1 2 (by simp) _ hi, ln_rl1 3 (by simp) _ hi, ln_rl1 4 (by simp) _ hi, h63]
end Go.Proofs.YtnbfedmecmdjlaaDoor.Aes
namespace Go.Proofs.YtnbfedmecmdjlaaDoor
open Go Go.RowKit
open Aes (LOW twB rlB sqF tmF sqB tmB ivB otB)
theorem twB_val (x : BitVec 64) : bits .xor .u64 (bits .andNot .u64 (IntKind.u64.wrap (x.toNat * 2)) 72340172838076673) (IntKind.u64.wrap (bits .and .u64 (x.toNat / 128) 72340172838076673 * 27)) = ((twB x).toNat : Int) := by
  unfold twB
  rw [f_shr x 7 (by decide), f64_shl x 1 (c := (x.toNat : Int) * 2) rfl, show (72340172838076673 : Int) = (LOW.toNat : Int) by decide, f64_and, f64_not, f64_mul (x >>> 7 &&& LOW) 27#64 (c := ((x >>> 7 &&& LOW).toNat : Int) * 27) rfl, f64_xor]
set_option maxRecDepth 20000 in
set_option maxHeartbeats 4000000 in
theorem twice_any (x : BitVec 64) (w : World) :
    Calls Tryd.prog 66 #[.int .u64 (x.toNat : Int)] w fun e w' => e = .returned (.int .u64 ((twB x).toNat : Int)) ∧ Kp0 w w' := by
  rw [← twB_val]
  go_enter Tryd.func66, Tryd.ntmps66
  go_wp2
  go_ret
  exact ⟨rfl, Kp.refl _ _⟩
theorem rl_val (x : BitVec 64) (n : Nat) (L : BitVec 64) {a b c : Int} (hL : Aes.lowN n = L) (ha : a = ((2 ^ n : Nat) : Int)) (hb : b = ((2 ^ (8 - n) : Nat) : Int)) (hc : c = (L.toNat : Int)) :
    bits .or .u64 (bits .andNot .u64 (IntKind.u64.wrap (x.toNat * a)) c) (bits .and .u64 (x.toNat / b) c) = ((rlB x n).toNat : Int) := by
  rw [f_shr x (8 - n) hb, f64_shl x n (by rw [ha]), hc, f64_not, f64_and, f64_or]
  unfold rlB
  rw [hL]
set_option maxRecDepth 20000 in
set_option maxHeartbeats 4000000 in
theorem rl_any (x : BitVec 64) (n : Nat) (m : Int) (w : World) (hm : m = n) (hn : n = 1 ∨ n = 2 ∨ n = 3 ∨ n = 4) :
    Calls Tryd.prog 78 #[.int .u64 (x.toNat : Int), .int .i64 m] w fun e w' => e = .returned (.int .u64 ((rlB x n).toNat : Int)) ∧ Kp0 w w' := by
  subst hm
  rcases hn with rfl | rfl | rfl | rfl
  · rw [← rl_val x 1 0x0101010101010101#64 (a := 2) (b := 128) (c := 72340172838076673) (by decide) (by decide) (by decide) (by decide)]
    go_enter Tryd.func78, Tryd.ntmps78
    go_wp2
    go_region
    go_wp2
    go_ret
    exact ⟨rfl, (Kp.refl _ _).drew⟩
  · rw [← rl_val x 2 0x0303030303030303#64 (a := 4) (b := 64) (c := 217020518514230019) (by decide) (by decide) (by decide) (by decide)]
    go_enter Tryd.func78, Tryd.ntmps78
    go_wp2
    go_region
    go_wp2
    go_ret
    exact ⟨rfl, (Kp.refl _ _).drew⟩
  · rw [← rl_val x 3 0x0707070707070707#64 (a := 8) (b := 32) (c := 506381209866536711) (by decide) (by decide) (by decide) (by decide)]
    go_enter Tryd.func78, Tryd.ntmps78
    go_wp2
    go_region
    go_wp2
    go_ret
    exact ⟨rfl, (Kp.refl _ _).drew⟩
  · rw [← rl_val x 4 0x0F0F0F0F0F0F0F0F#64 (a := 16) (b := 16) (c := 1085102592571150095) (by decide) (by decide) (by decide) (by decide)]
    go_enter Tryd.func78, Tryd.ntmps78
    go_wp2
    go_region
    go_wp2
    go_ret
    exact ⟨rfl, (Kp.refl _ _).drew⟩
/-- What the program's table holds. -/
def sqZ : List Int := [1, 4, 16, 64, 27, 108, 171, 154]
def Sqr (w : World) : Prop := w.rangeAt 2 0 (kis .u64 sqZ)
theorem Sqr.lt {w : World} (h : Sqr w) : 2 < w.heap.size := World.block_lt_of_cell? w _ (h 0 (.int .u64 1) (by rfl))
theorem Sqr.keep {S : Nat → Prop} {w w' : World} (h : Sqr w) (hk : Kp S w w') (h0 : ¬ S 2) : Sqr w' := fun j v hv => hk.cell (h j v hv) h0
theorem Sqr.kp0 {w w' : World} (h : Sqr w) (hk : Kp0 w w') : Sqr w' := h.keep hk (fun h => h)
theorem size64 (w : World) : (sizeOf 66).run Tryd.prog w = .ok 1 w := by
  obtain ⟨i, h, h2⟩ : ∃ i, Tryd.prog.info? 66 = some i ∧ Tryd.prog.cellsOf 66 = 1 := by
    have : (Tryd.prog.info? 66).isSome = true := by kernel_rfl
    obtain ⟨i, hi⟩ := Option.isSome_iff_exists.1 this
    exact ⟨i, hi, by kernel_rfl⟩
  rw [run_sizeOf _ h, h2]
theorem sqZ_get (n : Nat) (hn : n < 8) : ∃ c : BitVec 64, sqZ[n]? = some (c.toNat : Int) ∧ Aes.sqs.getD n 0#64 = c := by
  have hx : n = 0 ∨ n = 1 ∨ n = 2 ∨ n = 3 ∨ n = 4 ∨ n = 5 ∨ n = 6 ∨ n = 7 := by omega
  rcases hx with rfl | rfl | rfl | rfl | rfl | rfl | rfl | rfl <;> exact ⟨_, rfl, rfl⟩
theorem sq_index (n : Nat) (c : BitVec 64) (hc : sqZ[n]? = some (c.toNat : Int)) (hn : n < 8) (w : World) : (Instr.index 108 (.agg (kis .u64 sqZ).toArray) (.int .i64 (n : Int))).run Tryd.prog w = .ok (.int .u64 (c.toNat : Int)) w :=
  run_index_cells 108 66 8 .u64 .i64 (kis .u64 sqZ) n _ (by simp [kis, hc]) Tryd.underlying108 Tryd.underlying66 (size64 w) hn
set_option maxRecDepth 20000 in
set_option maxHeartbeats 4000000 in
theorem sq_any (x : BitVec 64) (w : World) (hq : Sqr w) :
    Calls Tryd.prog 86 #[.int .u64 (x.toNat : Int)] w fun e w' => e = .returned (.int .u64 ((sqB x).toNat : Int)) ∧ Kp0 w w' := by
  have HQ := Lib.hid hq
  clear hq
  go_enter Tryd.func86, Tryd.ntmps86
  go_wp2_with (refine wpList_load_mid rfl 108 (.global 2) rfl 2 0 rfl (kis .u64 sqZ) _ HQ.out Tryd.underlying108 rfl (by kernel_rfl) ?_)
  go_loopg [3, 7] 8 (fun g s i wr => ∃ (n : Nat), s = .int .u64 ((sqF x n).toNat : Int) ∧ i = .int .i64 n ∧ n ≤ 8 ∧ g = 8 - n ∧ wr = w)
  case atStart => exact ⟨0, by rw [sqF]; rfl, rfl, by omega, rfl, rfl⟩
  case round =>
    obtain ⟨n, rfl, rfl, hn, rfl, rfl⟩ := hrel
    by_cases h : n < 8
    · obtain ⟨c, hc, hc2⟩ := sqZ_get n h
      have hix := sq_index n c hc h wr
      have HC := Lib.hid hc2
      obtain ⟨s, hs⟩ : ∃ s, s = sqF x n := ⟨_, rfl⟩
      rw [← hs]
      have HS := Lib.hid hs
      clear hc hc2 hs
      go_wp2
      go_roundg (8 - (n + 1))
      case measure => omega
      case rel =>
        refine ⟨n + 1, ?_, by go_num, by omega, rfl, rfl⟩
        rw [f_shr x n (by rw [Int.natCast_pow]; rfl), show (72340172838076673 : Int) = (LOW.toNat : Int) by decide, f64_and, f64_mul (x >>> n &&& LOW) c rfl, f64_xor, ← HC.out, HS.out, sqF]
    · obtain rfl : n = 8 := by omega
      have HE : Hid (((sqF x 8).toNat : Int) = ((sqB x).toNat : Int)) := Lib.hid (by rw [sqB])
      obtain ⟨s, hs⟩ : ∃ s, s = sqF x 8 := ⟨_, rfl⟩
      rw [← hs] at HE ⊢
      clear h hs
      go_wp2
      go_ret
      exact ⟨by rw [← HE.out]; rfl, Kp.refl _ _⟩
set_option maxRecDepth 20000 in
set_option maxHeartbeats 4000000 in
theorem tm_any (x y : BitVec 64) (w : World) :
    Calls Tryd.prog 87 #[.int .u64 (x.toNat : Int), .int .u64 (y.toNat : Int)] w fun e w' => e = .returned (.int .u64 ((tmB x y).toNat : Int)) ∧ Kp0 w w' := by
  go_enter Tryd.func87, Tryd.ntmps87
  go_wp2
  go_loopg [5, 6] 8 (fun g s i wr => ∃ (n : Nat), s = .int .u64 ((tmF x y n).toNat : Int) ∧ i = .int .i64 (7 - (n : Int)) ∧ n ≤ 8 ∧ g = 8 - n ∧ Kp0 w wr)
  case atStart => exact ⟨0, by rw [tmF]; rfl, rfl, by omega, rfl, Kp.refl _ _⟩
  case round =>
    obtain ⟨n, rfl, rfl, hn, rfl, hk⟩ := hrel
    have HK := Lib.hid hk
    clear hk
    by_cases h : n < 8
    · obtain ⟨j, hj, hj2⟩ : ∃ j : Nat, (7 : Int) - (n : Int) = (j : Int) ∧ j = 7 - n := ⟨7 - n, by omega, rfl⟩
      rw [hj]
      have HJ := Lib.hid hj
      obtain ⟨s, hs⟩ : ∃ s, s = tmF x y n := ⟨_, rfl⟩
      rw [← hs]
      have HS := Lib.hid hs
      have hj8 : (j : Int) < 8 := by omega
      have HJ2 := Lib.hid hj2
      clear hs hj hj2 hn
      go_wp2_with (go_at_call 66; refine (twice_any s _).mono ?_; rintro e w2 ⟨rfl, hk2⟩; have HK2 := Lib.hid (HK.out.tr hk2); clear hk2; obtain ⟨u, hu⟩ : ∃ u, u = twB s := ⟨_, rfl⟩; rw [← hu]; have HU := Lib.hid hu; clear hu)
      go_roundg (8 - (n + 1))
      case measure => omega
      case rel =>
        have HJo := HJ.out
        refine ⟨n + 1, ?_, by go_num, by omega, rfl, HK2.out⟩
        rw [f_shr y j (by rw [Int.natCast_pow]; rfl), show (72340172838076673 : Int) = (LOW.toNat : Int) by decide, f64_and, f64_mul (y >>> j &&& LOW) 255#64 (c := ((y >>> j &&& LOW).toNat : Int) * 255) rfl, f64_and, f64_xor, HU.out, HS.out, HJ2.out, tmF]
    · obtain rfl : n = 8 := by omega
      have HE : Hid (((tmF x y 8).toNat : Int) = ((tmB x y).toNat : Int)) := Lib.hid (by rw [tmB])
      obtain ⟨s, hs⟩ : ∃ s, s = tmF x y 8 := ⟨_, rfl⟩
      rw [← hs] at HE ⊢
      clear h hs
      go_wp2
      go_ret
      exact ⟨by rw [← HE.out]; rfl, HK.out⟩
set_option maxRecDepth 20000 in
set_option maxHeartbeats 4000000 in
theorem iv_any (x : BitVec 64) (w : World) (hq : Sqr w) :
    Calls Tryd.prog 77 #[.int .u64 (x.toNat : Int)] w fun e w' => e = .returned (.int .u64 ((ivB x).toNat : Int)) ∧ Kp0 w w' := by
  have HQ := Lib.hid hq
  have HK := Lib.hid (Kp.refl (fun _ => False) w)
  clear hq
  go_enter Tryd.func77, Tryd.ntmps77
  go_wp2_with (first
    | (go_at_call 86; refine (sq_any _ _ (HQ.out.kp0 HK.out)).mono ?_; rintro e w2 ⟨rfl, hk2⟩; have HK := Lib.hid (HK.out.tr hk2); clear hk2)
    | (go_at_call 87; refine (tm_any _ _ _).mono ?_; rintro e w2 ⟨rfl, hk2⟩; have HK := Lib.hid (HK.out.tr hk2); clear hk2))
  go_ret
  exact ⟨by unfold ivB; rfl, HK.out⟩
theorem rl_int (x : BitVec 64) (m : Int) (w : World) (hm : m = 1 ∨ m = 2 ∨ m = 3 ∨ m = 4) :
    Calls Tryd.prog 78 #[.int .u64 (x.toNat : Int), .int .i64 m] w fun e w' => e = .returned (.int .u64 ((rlB x m.toNat).toNat : Int)) ∧ Kp0 w w' := by
  rcases hm with rfl | rfl | rfl | rfl
  · exact rl_any x 1 1 w rfl (by simp)
  · exact rl_any x 2 2 w rfl (by simp)
  · exact rl_any x 3 3 w rfl (by simp)
  · exact rl_any x 4 4 w rfl (by simp)
set_option maxRecDepth 20000 in
set_option maxHeartbeats 4000000 in
theorem ot_any (x : BitVec 64) (w : World) (hq : Sqr w) :
    Calls Tryd.prog 65 #[.int .u64 (x.toNat : Int)] w fun e w' => e = .returned (.int .u64 ((otB x).toNat : Int)) ∧ Kp0 w w' := by
  have HQ := Lib.hid hq
  have HK := Lib.hid (Kp.refl (fun _ => False) w)
  clear hq
  go_enter Tryd.func65, Tryd.ntmps65
  go_wp2_with (first
    | (go_at_call 77; refine (iv_any _ _ (HQ.out.kp0 HK.out)).mono ?_; rintro e w2 ⟨rfl, hk2⟩; have HK := Lib.hid (HK.out.tr hk2); clear hk2)
    | (go_at_call 78; refine (rl_int _ _ _ (by decide)).mono ?_; rintro e w2 ⟨rfl, hk2⟩; have HK := Lib.hid (HK.out.tr hk2); clear hk2))
  go_ret
  refine ⟨?_, HK.out⟩
  rw [show (7161677110969590627 : Int) = ((0x6363636363636363#64).toNat : Int) by decide]
  simp only [f64_xor]
  unfold otB
  rfl
theorem rot_val (x : BitVec 32) (n : Nat) {a b : Int} (ha : a = ((2 ^ n : Nat) : Int)) (hb : b = ((2 ^ (32 - n) : Nat) : Int)) :
    bits .or .u32 (IntKind.u32.wrap (x.toNat * a)) (x.toNat / b) = (((x <<< n) ||| (x >>> (32 - n))).toNat : Int) := by
  rw [f_shr x (32 - n) hb, f32_shl x n (by rw [ha]), f32_or]
def rot (x : BitVec 32) (n : Nat) : BitVec 32 := (x <<< n) ||| (x >>> (32 - n))
set_option maxRecDepth 20000 in
set_option maxHeartbeats 4000000 in
theorem rot_any (x : BitVec 32) (n : Nat) (m : Int) (w : World) (hm : m = n) (hn : n = 8 ∨ n = 16 ∨ n = 24) :
    Calls Tryd.prog 64 #[.int .u32 (x.toNat : Int), .int .i64 m] w fun e w' => e = .returned (.int .u32 ((rot x n).toNat : Int)) ∧ Kp0 w w' := by
  subst hm
  unfold rot
  rcases hn with rfl | rfl | rfl
  · rw [← rot_val x 8 (a := 256) (b := 16777216) (by decide) (by decide)]
    have hb : bits .and .u64 8 31 = 8 := by decide
    go_enter Tryd.func64, Tryd.ntmps64
    go_wp2
    go_ret
    exact ⟨rfl, Kp.refl _ _⟩
  · rw [← rot_val x 16 (a := 65536) (b := 65536) (by decide) (by decide)]
    have hb : bits .and .u64 16 31 = 16 := by decide
    go_enter Tryd.func64, Tryd.ntmps64
    go_wp2
    go_ret
    exact ⟨rfl, Kp.refl _ _⟩
  · rw [← rot_val x 24 (a := 16777216) (b := 256) (by decide) (by decide)]
    have hb : bits .and .u64 24 31 = 24 := by decide
    go_enter Tryd.func64, Tryd.ntmps64
    go_wp2
    go_ret
    exact ⟨rfl, Kp.refl _ _⟩
theorem rot_int (x : BitVec 32) (m : Int) (w : World) (hm : m = 8 ∨ m = 16 ∨ m = 24) :
    Calls Tryd.prog 64 #[.int .u32 (x.toNat : Int), .int .i64 m] w fun e w' => e = .returned (.int .u32 ((rot x m.toNat).toNat : Int)) ∧ Kp0 w w' := by
  rcases hm with rfl | rfl | rfl
  · exact rot_any x 8 8 w rfl (by simp)
  · exact rot_any x 16 16 w rfl (by simp)
  · exact rot_any x 24 24 w rfl (by simp)
end Go.Proofs.YtnbfedmecmdjlaaDoor
namespace Go.Proofs.YtnbfedmecmdjlaaDoor
open Go Go.RowKit
def zi {m : Nat} (cs : List (BitVec m)) : List Int := cs.map fun c => (c.toNat : Int)
theorem zi_len {m : Nat} (cs : List (BitVec m)) : (zi cs).length = cs.length := by simp [zi]
theorem zi_get {m : Nat} {cs : List (BitVec m)} {n : Nat} {c : BitVec m} (h : cs[n]? = some c) : (zi cs)[n]? = some (c.toNat : Int) := by simp [zi, h]
theorem zi_set {m : Nat} (cs : List (BitVec m)) (n : Nat) (c : BitVec m) : (zi cs).set n (c.toNat : Int) = zi (cs.set n c) := by simp [zi, List.map_set]
abbrev u32s (cs : List (BitVec 32)) : List Value := kis .u32 (zi cs)
theorem u32s_get {cs : List (BitVec 32)} {n : Nat} {c : BitVec 32} (h : cs[n]? = some c) : (u32s cs)[n]? = some (.int .u32 (c.toNat : Int)) := kis_get (zi_get h)
theorem u32s_set (cs : List (BitVec 32)) (n : Nat) (c : BitVec 32) : (u32s cs).set n (.int .u32 (c.toNat : Int)) = u32s (cs.set n c) := by rw [kis_set, zi_set]
theorem u32s_len (cs : List (BitVec 32)) : (u32s cs).length = cs.length := by rw [kis_len, zi_len]
theorem infoBk {cs : List (BitVec 32)} (h : cs.length = 4) : (Tryd.prog.info? 84).map (·.size) = some (u32s cs).length := by
  rw [u32s_len, h]; kernel_rfl
def z4 : List (BitVec 32) := [0#32, 0#32, 0#32, 0#32]
def xorW (cs ks : List (BitVec 32)) : List (BitVec 32) := List.zipWith (· ^^^ ·) cs ks
set_option maxRecDepth 20000 in
set_option maxHeartbeats 4000000 in
theorem bxor_any (cs ks : List (BitVec 32)) (w : World) (hc : cs.length = 4) (hk : ks.length = 4) :
    Calls Tryd.prog 88 #[.agg (u32s cs).toArray, .agg (u32s ks).toArray] w fun e w' => e = .returned (.agg (u32s (xorW cs ks)).toArray) ∧ Kp0 w w' := by
  have HX : Hid ((xorW cs ks).length = 4) := Lib.hid (by simp [xorW, hc, hk])
  have HS : Hid (∀ n, n < 4 → ∃ x y, (upT n cs (xorW cs ks))[n]? = some x ∧ ks[n]? = some y ∧ (upT n cs (xorW cs ks)).set n (x ^^^ y) = upT (n + 1) cs (xorW cs ks)) := Lib.hid (by
    intro n hn
    have h1 : cs[n]? = some (cs[n]'(by omega)) := List.getElem?_eq_getElem _
    have h2 : ks[n]? = some (ks[n]'(by omega)) := List.getElem?_eq_getElem _
    have h3 : (xorW cs ks)[n]? = some (cs[n]'(by omega) ^^^ ks[n]'(by omega)) := by simp [xorW, List.getElem?_zipWith, h1, h2]
    have := upT_step (l := cs) (m := xorW cs ks) (by rw [HX.out, hc]) h1 h3
    exact ⟨_, _, this.1, h2, this.2⟩)
  have HC := Lib.hid hc
  have HKs := Lib.hid hk
  obtain ⟨rs, hrs⟩ : ∃ rs, rs = xorW cs ks := ⟨_, rfl⟩
  rw [← hrs] at HX HS ⊢
  clear hc hk hrs
  go_enter Tryd.func88, Tryd.ntmps88
  go_upto_region 1 with (fail)
  have HR := Lib.hid (rows3 w 84 (u32s cs) 84 (u32s ks) 84 (u32s z4))
  change Code.wp _ _ _ _ (((w.alloc (.cells (u32s cs).toArray 84)).alloc (.cells (u32s ks).toArray 84)).alloc (.cells (u32s z4).toArray 84))
  generalize (((w.alloc (.cells (u32s cs).toArray 84)).alloc (.cells (u32s ks).toArray 84)).alloc (.cells (u32s z4).toArray 84)) = w1 at HR
  go_wp2
  go_loopg [6] 4 (fun g i wr => ∃ (n : Nat), i = .int .i64 n ∧ n ≤ 4 ∧ g = 4 - n ∧ Rows' w wr [(84, u32s (upT n cs rs)), (84, u32s ks), (84, u32s z4)])
  case atStart => exact ⟨0, rfl, by omega, rfl, by rw [upT_zero]; exact HR.out⟩
  case round =>
    obtain ⟨n, rfl, hn, rfl, hr⟩ := hrel
    have HR1 := Lib.hid hr
    clear hr HR
    by_cases h : n < 4
    · obtain ⟨x, y, h1, h2, h3⟩ := HS.out n h
      have hc1 := (HR1.out.blk 0 rfl (g := w.heap.size) rfl).cellV n (u32s_get h1)
      have hf1 := blk_frozen (HR1.out.blk 0 rfl (g := w.heap.size) rfl) n
      have hc2 := (HR1.out.blk 1 rfl (g := w.heap.size + 1) rfl).cellV n (u32s_get h2)
      have H3 := Lib.hid h3
      clear h1 h2 h3
      go_upto_region 4 with (fail)
      go_region
      go_wp2
      go_roundg (4 - (n + 1))
      case measure => omega
      case rel =>
        refine ⟨n + 1, by go_num, by omega, rfl, ?_⟩
        have hs := HR1.out.drew.set 0 rfl n (.int .u32 ((x ^^^ y).toNat : Int)) (g := w.heap.size) rfl
        rw [f32_xor]
        rw [u32s_set, H3.out] at hs
        exact hs
    · obtain rfl : n = 4 := by omega
      rw [upT_all (by rw [HC.out]; exact Nat.le_refl _) (by rw [HX.out]; exact Nat.le_refl _)] at HR1
      go_wp2_with (first
        | (refine wl_load_blk rfl 84 (.tmp 2) rfl (w.heap.size) _ _ rfl (HR1.out.blk 0 rfl rfl) _ Tryd.underlying84 rfl (infoBk HX.out) ?_)
        | (refine wl_store_blk rfl 84 (.tmp 4) (.tmp 18) rfl (w.heap.size + 1 + 1) _ _ (u32s rs) rfl rfl (HR1.out.blk 2 rfl rfl) (infoBk HX.out) (len_of (T := 84) (infoBk (cs := z4) rfl) (infoBk HX.out)) (kis_ones _ _) ?_
           intro w7 hA7 hK7
           have HA7 := Lib.hid hA7
           have HK7 := Lib.hid hK7
           clear hA7 hK7))
      refine ret_blk 4 84 84 (w.heap.size + 1 + 1) (u32s rs) _ rfl rfl HA7.out Tryd.underlying84 rfl (infoBk HX.out) rfl ?_
      exact ⟨rfl, HR1.out.kp.trans HK7.out (fun _ _ h => h) (fun i hi e => by omega)⟩
end Go.Proofs.YtnbfedmecmdjlaaDoor
