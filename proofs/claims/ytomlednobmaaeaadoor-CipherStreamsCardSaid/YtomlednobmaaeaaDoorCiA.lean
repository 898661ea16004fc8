/- Package cipher: its sums of bytes. -/
import Derived.Test.YtomlednobmaaeaaDoorChecked
import Derived.Test.YtomlednobmaaeaaDoorLib
import Derived.Test.YtomlednobmaaeaaDoorArK
import Derived.Test.YtomlednobmaaeaaDoorAes
import Derived.Test.YtomlednobmaaeaaDoorIdx
import Derived.WalkKit
import Derived.BigRegion
import Derived.Deep.DeepCutAuto
import Derived.Deep.LoopGhost
import Derived.Lib.Hide
namespace Go.Proofs.YtomlednobmaaeaaDoor
open Go Go.RowKit
open Aes (LOW twB rlB sqF tmF sqB tmB ivB otB)
theorem ofInt64 (a : BitVec 64) : BitVec.ofInt 64 (a.toNat : Int) = a := by
  rw [BitVec.ofInt_natCast, BitVec.ofNat_toNat, BitVec.setWidth_eq]
theorem ofInt32 (a : BitVec 32) : BitVec.ofInt 32 (a.toNat : Int) = a := by
  rw [BitVec.ofInt_natCast, BitVec.ofNat_toNat, BitVec.setWidth_eq]
theorem wrap64 (a : BitVec 64) : IntKind.u64.wrap (a.toNat : Int) = (a.toNat : Int) := by
  rw [IntKind.wrap_u64]; have := a.isLt; omega
theorem wrap32 (a : BitVec 32) : IntKind.u32.wrap (a.toNat : Int) = (a.toNat : Int) := by
  rw [IntKind.wrap_u32']; have := a.isLt; omega
theorem f64_xor (a b : BitVec 64) : bits .xor .u64 (a.toNat : Int) (b.toNat : Int) = ((a ^^^ b).toNat : Int) := by
  show IntKind.u64.wrap ((BitVec.ofInt 64 (a.toNat : Int) ^^^ BitVec.ofInt 64 (b.toNat : Int)).toNat : Int) = _
  rw [ofInt64, ofInt64, wrap64]
theorem f64_and (a b : BitVec 64) : bits .and .u64 (a.toNat : Int) (b.toNat : Int) = ((a &&& b).toNat : Int) := by
  show IntKind.u64.wrap ((BitVec.ofInt 64 (a.toNat : Int) &&& BitVec.ofInt 64 (b.toNat : Int)).toNat : Int) = _
  rw [ofInt64, ofInt64, wrap64]
theorem f64_or (a b : BitVec 64) : bits .or .u64 (a.toNat : Int) (b.toNat : Int) = ((a ||| b).toNat : Int) := by
  show IntKind.u64.wrap ((BitVec.ofInt 64 (a.toNat : Int) ||| BitVec.ofInt 64 (b.toNat : Int)).toNat : Int) = _
  rw [ofInt64, ofInt64, wrap64]
theorem f64_not (a b : BitVec 64) : bits .andNot .u64 (a.toNat : Int) (b.toNat : Int) = ((a &&& ~~~b).toNat : Int) := by
  show IntKind.u64.wrap ((BitVec.ofInt 64 (a.toNat : Int) &&& ~~~BitVec.ofInt 64 (b.toNat : Int)).toNat : Int) = _
  rw [ofInt64, ofInt64, wrap64]
theorem f32_xor (a b : BitVec 32) : bits .xor .u32 (a.toNat : Int) (b.toNat : Int) = ((a ^^^ b).toNat : Int) := by
  show IntKind.u32.wrap ((BitVec.ofInt 32 (a.toNat : Int) ^^^ BitVec.ofInt 32 (b.toNat : Int)).toNat : Int) = _
  rw [ofInt32, ofInt32, wrap32]
theorem f32_and (a b : BitVec 32) : bits .and .u32 (a.toNat : Int) (b.toNat : Int) = ((a &&& b).toNat : Int) := by
  show IntKind.u32.wrap ((BitVec.ofInt 32 (a.toNat : Int) &&& BitVec.ofInt 32 (b.toNat : Int)).toNat : Int) = _
  rw [ofInt32, ofInt32, wrap32]
theorem f32_or (a b : BitVec 32) : bits .or .u32 (a.toNat : Int) (b.toNat : Int) = ((a ||| b).toNat : Int) := by
  show IntKind.u32.wrap ((BitVec.ofInt 32 (a.toNat : Int) ||| BitVec.ofInt 32 (b.toNat : Int)).toNat : Int) = _
  rw [ofInt32, ofInt32, wrap32]
theorem f64_mul (a b : BitVec 64) {c : Int} (h : c = (a.toNat : Int) * (b.toNat : Int)) : IntKind.u64.wrap c = ((a * b).toNat : Int) := by
  rw [h, IntKind.wrap_u64, BitVec.toNat_mul, Int.natCast_emod, Int.natCast_mul]
  rfl
theorem f64_shl (a : BitVec 64) (n : Nat) {c : Int} (h : c = (a.toNat : Int) * ((2 ^ n : Nat) : Int)) : IntKind.u64.wrap c = ((a <<< n).toNat : Int) := by
  rw [h, IntKind.wrap_u64, BitVec.toNat_shiftLeft, Nat.shiftLeft_eq, Int.natCast_emod, Int.natCast_mul]
  rfl
theorem f32_shl (a : BitVec 32) (n : Nat) {c : Int} (h : c = (a.toNat : Int) * ((2 ^ n : Nat) : Int)) : IntKind.u32.wrap c = ((a <<< n).toNat : Int) := by
  rw [h, IntKind.wrap_u32', BitVec.toNat_shiftLeft, Nat.shiftLeft_eq, Int.natCast_emod, Int.natCast_mul]
  rfl
theorem f_shr {m : Nat} (a : BitVec m) (n : Nat) {c : Int} (h : c = ((2 ^ n : Nat) : Int)) : (a.toNat : Int) / c = ((a >>> n).toNat : Int) := by
  rw [h, BitVec.toNat_ushiftRight, Nat.shiftRight_eq_div_pow, Int.natCast_ediv]
theorem twB_val (x : BitVec 64) : bits .xor .u64 (bits .andNot .u64 (IntKind.u64.wrap (x.toNat * 2)) 72340172838076673) (IntKind.u64.wrap (bits .and .u64 (x.toNat / 128) 72340172838076673 * 27)) = ((twB x).toNat : Int) := by
  unfold twB
  rw [f_shr x 7 (by decide), f64_shl x 1 (c := (x.toNat : Int) * 2) rfl, show (72340172838076673 : Int) = (LOW.toNat : Int) by decide, f64_and, f64_not, f64_mul (x >>> 7 &&& LOW) 27#64 (c := ((x >>> 7 &&& LOW).toNat : Int) * 27) rfl, f64_xor]
set_option maxRecDepth 20000 in
set_option maxHeartbeats 4000000 in
theorem twice_any (x : BitVec 64) (w : World) :
    Calls Tryd.prog 24 #[.int .u64 (x.toNat : Int)] w fun e w' => e = .returned (.int .u64 ((twB x).toNat : Int)) ∧ Kp0 w w' := by
  rw [← twB_val]
  go_enter Tryd.func24, Tryd.ntmps24
  go_wp2
  go_ret
  exact ⟨rfl, Kp.refl _ _⟩
theorem rl_val (x : BitVec 64) (n : Nat) (L : BitVec 64) {a b c : Int} (hL : Aes.lowN n = L) (ha : a = ((2 ^ n : Nat) : Int)) (hb : b = ((2 ^ (8 - n) : Nat) : Int)) (hc : c = (L.toNat : Int)) :
    bits .or .u64 (bits .andNot .u64 (IntKind.u64.wrap (x.toNat * a)) c) (bits .and .u64 (x.toNat / b) c) = ((rlB x n).toNat : Int) := by
  rw [f_shr x (8 - n) hb, f64_shl x n (by rw [ha]), hc, f64_not, f64_and, f64_or]
  unfold rlB
  rw [hL]
set_option maxRecDepth 20000 in
set_option maxHeartbeats 4000000 in
theorem rl_any (x : BitVec 64) (n : Nat) (m : Int) (w : World) (hm : m = n) (hn : n = 1 ∨ n = 2 ∨ n = 3 ∨ n = 4) :
    Calls Tryd.prog 31 #[.int .u64 (x.toNat : Int), .int .i64 m] w fun e w' => e = .returned (.int .u64 ((rlB x n).toNat : Int)) ∧ Kp0 w w' := by
  subst hm
  rcases hn with rfl | rfl | rfl | rfl
  · rw [← rl_val x 1 0x0101010101010101#64 (a := 2) (b := 128) (c := 72340172838076673) (by decide) (by decide) (by decide) (by decide)]
    go_enter Tryd.func31, Tryd.ntmps31
    go_wp2
    go_region
    go_wp2
    go_ret
    exact ⟨rfl, (Kp.refl _ _).drew⟩
  · rw [← rl_val x 2 0x0303030303030303#64 (a := 4) (b := 64) (c := 217020518514230019) (by decide) (by decide) (by decide) (by decide)]
    go_enter Tryd.func31, Tryd.ntmps31
    go_wp2
    go_region
    go_wp2
    go_ret
    exact ⟨rfl, (Kp.refl _ _).drew⟩
  · rw [← rl_val x 3 0x0707070707070707#64 (a := 8) (b := 32) (c := 506381209866536711) (by decide) (by decide) (by decide) (by decide)]
    go_enter Tryd.func31, Tryd.ntmps31
    go_wp2
    go_region
    go_wp2
    go_ret
    exact ⟨rfl, (Kp.refl _ _).drew⟩
  · rw [← rl_val x 4 0x0F0F0F0F0F0F0F0F#64 (a := 16) (b := 16) (c := 1085102592571150095) (by decide) (by decide) (by decide) (by decide)]
    go_enter Tryd.func31, Tryd.ntmps31
    go_wp2
    go_region
    go_wp2
    go_ret
    exact ⟨rfl, (Kp.refl _ _).drew⟩
/-- What the program's table holds. -/
def sqZ : List Int := [1, 4, 16, 64, 27, 108, 171, 154]
def Sqr (w : World) : Prop := w.rangeAt 0 0 (kis .u64 sqZ)
theorem Sqr.lt {w : World} (h : Sqr w) : 0 < w.heap.size := World.block_lt_of_cell? w _ (h 0 (.int .u64 1) (by rfl))
theorem Sqr.keep {S : Nat → Prop} {w w' : World} (h : Sqr w) (hk : Kp S w w') (h0 : ¬ S 0) : Sqr w' := fun j v hv => hk.cell (h j v hv) h0
theorem Sqr.kp0 {w w' : World} (h : Sqr w) (hk : Kp0 w w') : Sqr w' := h.keep hk (fun h => h)
theorem size64 (w : World) : (sizeOf 58).run Tryd.prog w = .ok 1 w := by
  obtain ⟨i, h, h2⟩ : ∃ i, Tryd.prog.info? 58 = some i ∧ Tryd.prog.cellsOf 58 = 1 := by
    have : (Tryd.prog.info? 58).isSome = true := by kernel_rfl
    obtain ⟨i, hi⟩ := Option.isSome_iff_exists.1 this
    exact ⟨i, hi, by kernel_rfl⟩
  rw [run_sizeOf _ h, h2]
theorem sqZ_get (n : Nat) (hn : n < 8) : ∃ c : BitVec 64, sqZ[n]? = some (c.toNat : Int) ∧ Aes.sqs.getD n 0#64 = c := by
  have hx : n = 0 ∨ n = 1 ∨ n = 2 ∨ n = 3 ∨ n = 4 ∨ n = 5 ∨ n = 6 ∨ n = 7 := by omega
  rcases hx with rfl | rfl | rfl | rfl | rfl | rfl | rfl | rfl <;> exact ⟨_, rfl, rfl⟩
theorem sq_index (n : Nat) (c : BitVec 64) (hc : sqZ[n]? = some (c.toNat : Int)) (hn : n < 8) (w : World) : (Instr.index 66 (.agg (kis .u64 sqZ).toArray) (.int .i64 (n : Int))).run Tryd.prog w = .ok (.int .u64 (c.toNat : Int)) w :=
  run_index_cells 66 58 8 .u64 .i64 (kis .u64 sqZ) n _ (by simp [kis, hc]) Tryd.underlying66 Tryd.underlying58 (size64 w) hn
set_option maxRecDepth 20000 in
set_option maxHeartbeats 4000000 in
theorem sq_any (x : BitVec 64) (w : World) (hq : Sqr w) :
    Calls Tryd.prog 32 #[.int .u64 (x.toNat : Int)] w fun e w' => e = .returned (.int .u64 ((sqB x).toNat : Int)) ∧ Kp0 w w' := by
  have HQ := Lib.hid hq
  clear hq
  go_enter Tryd.func32, Tryd.ntmps32
  go_wp2_with (refine wpList_load_mid rfl 66 (.global 0) rfl 0 0 rfl (kis .u64 sqZ) _ HQ.out Tryd.underlying66 rfl (by kernel_rfl) ?_)
  go_loopg [3, 7] 8 (fun g s i wr => ∃ (n : Nat), s = .int .u64 ((sqF x n).toNat : Int) ∧ i = .int .i64 n ∧ n ≤ 8 ∧ g = 8 - n ∧ wr = w)
  case atStart => exact ⟨0, by rw [sqF]; rfl, rfl, by omega, rfl, rfl⟩
  case round =>
    obtain ⟨n, rfl, rfl, hn, rfl, rfl⟩ := hrel
    by_cases h : n < 8
    · obtain ⟨c, hc, hc2⟩ := sqZ_get n h
      have hix := sq_index n c hc h wr
      have HC := Lib.hid hc2
      obtain ⟨s, hs⟩ : ∃ s, s = sqF x n := ⟨_, rfl⟩
      rw [← hs]
      have HS := Lib.hid hs
      clear hc hc2 hs
      go_wp2
      go_roundg (8 - (n + 1))
      case measure => omega
      case rel =>
        refine ⟨n + 1, ?_, by go_num, by omega, rfl, rfl⟩
        rw [f_shr x n (by rw [Int.natCast_pow]; rfl), show (72340172838076673 : Int) = (LOW.toNat : Int) by decide, f64_and, f64_mul (x >>> n &&& LOW) c rfl, f64_xor, ← HC.out, HS.out, sqF]
    · obtain rfl : n = 8 := by omega
      have HE : Hid (((sqF x 8).toNat : Int) = ((sqB x).toNat : Int)) := Lib.hid (by rw [sqB])
      obtain ⟨s, hs⟩ : ∃ s, s = sqF x 8 := ⟨_, rfl⟩
      rw [← hs] at HE ⊢
      clear h hs
      go_wp2
      go_ret
      exact ⟨by rw [← HE.out]; rfl, Kp.refl _ _⟩
set_option maxRecDepth 20000 in
set_option maxHeartbeats 4000000 in
theorem tm_any (x y : BitVec 64) (w : World) :
    Calls Tryd.prog 33 #[.int .u64 (x.toNat : Int), .int .u64 (y.toNat : Int)] w fun e w' => e = .returned (.int .u64 ((tmB x y).toNat : Int)) ∧ Kp0 w w' := by
  go_enter Tryd.func33, Tryd.ntmps33
  go_wp2
  go_loopg [5, 6] 8 (fun g s i wr => ∃ (n : Nat), s = .int .u64 ((tmF x y n).toNat : Int) ∧ i = .int .i64 (7 - (n : Int)) ∧ n ≤ 8 ∧ g = 8 - n ∧ Kp0 w wr)
  case atStart => exact ⟨0, by rw [tmF]; rfl, rfl, by omega, rfl, Kp.refl _ _⟩
  case round =>
    obtain ⟨n, rfl, rfl, hn, rfl, hk⟩ := hrel
    have HK := Lib.hid hk
    clear hk
    by_cases h : n < 8
    · obtain ⟨j, hj, hj2⟩ : ∃ j : Nat, (7 : Int) - (n : Int) = (j : Int) ∧ j = 7 - n := ⟨7 - n, by omega, rfl⟩
      rw [hj]
      have HJ := Lib.hid hj
      obtain ⟨s, hs⟩ : ∃ s, s = tmF x y n := ⟨_, rfl⟩
      rw [← hs]
      have HS := Lib.hid hs
      have hj8 : (j : Int) < 8 := by omega
      have HJ2 := Lib.hid hj2
      clear hs hj hj2 hn
      go_wp2_with (go_at_call 24; refine (twice_any s _).mono ?_; rintro e w2 ⟨rfl, hk2⟩; have HK2 := Lib.hid (HK.out.tr hk2); clear hk2; obtain ⟨u, hu⟩ : ∃ u, u = twB s := ⟨_, rfl⟩; rw [← hu]; have HU := Lib.hid hu; clear hu)
      go_roundg (8 - (n + 1))
      case measure => omega
      case rel =>
        have HJo := HJ.out
        refine ⟨n + 1, ?_, by go_num, by omega, rfl, HK2.out⟩
        rw [f_shr y j (by rw [Int.natCast_pow]; rfl), show (72340172838076673 : Int) = (LOW.toNat : Int) by decide, f64_and, f64_mul (y >>> j &&& LOW) 255#64 (c := ((y >>> j &&& LOW).toNat : Int) * 255) rfl, f64_and, f64_xor, HU.out, HS.out, HJ2.out, tmF]
    · obtain rfl : n = 8 := by omega
      have HE : Hid (((tmF x y 8).toNat : Int) = ((tmB x y).toNat : Int)) := Lib.hid (by rw [tmB])
      obtain ⟨s, hs⟩ : ∃ s, s = tmF x y 8 := ⟨_, rfl⟩
      rw [← hs] at HE ⊢
      clear h hs
      go_wp2
      go_ret
      exact ⟨by rw [← HE.out]; rfl, HK.out⟩
set_option maxRecDepth 20000 in
set_option maxHeartbeats 4000000 in
theorem iv_any (x : BitVec 64) (w : World) (hq : Sqr w) :
    Calls Tryd.prog 30 #[.int .u64 (x.toNat : Int)] w fun e w' => e = .returned (.int .u64 ((ivB x).toNat : Int)) ∧ Kp0 w w' := by
  have HQ := Lib.hid hq
  have HK := Lib.hid (Kp.refl (fun _ => False) w)
  clear hq
  go_enter Tryd.func30, Tryd.ntmps30
  go_wp2_with (first
    | (go_at_call 32; refine (sq_any _ _ (HQ.out.kp0 HK.out)).mono ?_; rintro e w2 ⟨rfl, hk2⟩; have HK := Lib.hid (HK.out.tr hk2); clear hk2)
    | (go_at_call 33; refine (tm_any _ _ _).mono ?_; rintro e w2 ⟨rfl, hk2⟩; have HK := Lib.hid (HK.out.tr hk2); clear hk2))
  go_ret
  exact ⟨by unfold ivB; rfl, HK.out⟩
theorem rl_int (x : BitVec 64) (m : Int) (w : World) (hm : m = 1 ∨ m = 2 ∨ m = 3 ∨ m = 4) :
    Calls Tryd.prog 31 #[.int .u64 (x.toNat : Int), .int .i64 m] w fun e w' => e = .returned (.int .u64 ((rlB x m.toNat).toNat : Int)) ∧ Kp0 w w' := by
  rcases hm with rfl | rfl | rfl | rfl
  · exact rl_any x 1 1 w rfl (by simp)
  · exact rl_any x 2 2 w rfl (by simp)
  · exact rl_any x 3 3 w rfl (by simp)
  · exact rl_any x 4 4 w rfl (by simp)
set_option maxRecDepth 20000 in
set_option maxHeartbeats 4000000 in
theorem ot_any (x : BitVec 64) (w : World) (hq : Sqr w) :
    Calls Tryd.prog 23 #[.int .u64 (x.toNat : Int)] w fun e w' => e = .returned (.int .u64 ((otB x).toNat : Int)) ∧ Kp0 w w' := by
  have HQ := Lib.hid hq
  have HK := Lib.hid (Kp.refl (fun _ => False) w)
  clear hq
  go_enter Tryd.func23, Tryd.ntmps23
  go_wp2_with (first
    | (go_at_call 30; refine (iv_any _ _ (HQ.out.kp0 HK.out)).mono ?_; rintro e w2 ⟨rfl, hk2⟩; have HK := Lib.hid (HK.out.tr hk2); clear hk2)
    | (go_at_call 31; refine (rl_int _ _ _ (by decide)).mono ?_; rintro e w2 ⟨rfl, hk2⟩; have HK := Lib.hid (HK.out.tr hk2); clear hk2))
  go_ret
  refine ⟨?_, HK.out⟩
  rw [show (7161677110969590627 : Int) = ((0x6363636363636363#64).toNat : Int) by decide]
  simp only [f64_xor]
  unfold otB
  rfl
theorem rot_val (x : BitVec 32) (n : Nat) {a b : Int} (ha : a = ((2 ^ n : Nat) : Int)) (hb : b = ((2 ^ (32 - n) : Nat) : Int)) :
    bits .or .u32 (IntKind.u32.wrap (x.toNat * a)) (x.toNat / b) = (((x <<< n) ||| (x >>> (32 - n))).toNat : Int) := by
  rw [f_shr x (32 - n) hb, f32_shl x n (by rw [ha]), f32_or]
def rot (x : BitVec 32) (n : Nat) : BitVec 32 := (x <<< n) ||| (x >>> (32 - n))
set_option maxRecDepth 20000 in
set_option maxHeartbeats 4000000 in
theorem rot_any (x : BitVec 32) (n : Nat) (m : Int) (w : World) (hm : m = n) (hn : n = 8 ∨ n = 16 ∨ n = 24) :
    Calls Tryd.prog 22 #[.int .u32 (x.toNat : Int), .int .i64 m] w fun e w' => e = .returned (.int .u32 ((rot x n).toNat : Int)) ∧ Kp0 w w' := by
  subst hm
  unfold rot
  rcases hn with rfl | rfl | rfl
  · rw [← rot_val x 8 (a := 256) (b := 16777216) (by decide) (by decide)]
    have hb : bits .and .u64 8 31 = 8 := by decide
    go_enter Tryd.func22, Tryd.ntmps22
    go_wp2
    go_ret
    exact ⟨rfl, Kp.refl _ _⟩
  · rw [← rot_val x 16 (a := 65536) (b := 65536) (by decide) (by decide)]
    have hb : bits .and .u64 16 31 = 16 := by decide
    go_enter Tryd.func22, Tryd.ntmps22
    go_wp2
    go_ret
    exact ⟨rfl, Kp.refl _ _⟩
  · rw [← rot_val x 24 (a := 16777216) (b := 256) (by decide) (by decide)]
    have hb : bits .and .u64 24 31 = 24 := by decide
    go_enter Tryd.func22, Tryd.ntmps22
    go_wp2
    go_ret
    exact ⟨rfl, Kp.refl _ _⟩
theorem rot_int (x : BitVec 32) (m : Int) (w : World) (hm : m = 8 ∨ m = 16 ∨ m = 24) :
    Calls Tryd.prog 22 #[.int .u32 (x.toNat : Int), .int .i64 m] w fun e w' => e = .returned (.int .u32 ((rot x m.toNat).toNat : Int)) ∧ Kp0 w w' := by
  rcases hm with rfl | rfl | rfl
  · exact rot_any x 8 8 w rfl (by simp)
  · exact rot_any x 16 16 w rfl (by simp)
  · exact rot_any x 24 24 w rfl (by simp)
end Go.Proofs.YtomlednobmaaeaaDoor
