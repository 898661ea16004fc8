/- Package field: wide products. Package field: split. -/
import Derived.Test.YtcnehbfcagghpaaSub5m
import Derived.Lib.Mul64
import Derived.Laws.Bits64b
import Derived.Laws.Externs
namespace Go.Proofs.Ytcnehbfcagghpaa
open Go Go.RowKit
namespace M64
theorem maskN (a : Nat) (ha : a < 18446744073709551616) : bits .and .u64 (a : Int) 4294967295 = ((a % 4294967296 : Nat) : Int) := by
  have h := bits_and_u64_nat a 4294967295 ha (by omega)
  have e : a &&& 4294967295 = a % 4294967296 := Nat.and_two_pow_sub_one_eq_mod a 32
  rw [e] at h
  exact h
theorem divN (a : Nat) : (a : Int) / 4294967296 = ((a / 4294967296 : Nat) : Int) := by omega
theorem mulN (a b : Nat) : (a : Int) * (b : Int) = ((a * b : Nat) : Int) := (Int.natCast_mul a b).symm
theorem addN (a b : Nat) : (a : Int) + (b : Int) = ((a + b : Nat) : Int) := (Int.natCast_add a b).symm
theorem wrapN (a : Nat) (ha : a < 18446744073709551616) : IntKind.u64.wrap (a : Int) = (a : Int) := by rw [IntKind.wrap_u64]; omega
theorem wrapM (a : Nat) : IntKind.u64.wrap (a : Int) = ((a % 18446744073709551616 : Nat) : Int) := by rw [IntKind.wrap_u64]; omega
end M64
set_option maxHeartbeats 1000000 in
theorem mul64_nat (x y : Nat) (hx : x < 18446744073709551616) (hy : y < 18446744073709551616) (w : World) :
    Calls Try.prog 50 #[.int .u64 x, .int .u64 y] w fun e w' => e = .returned (.tuple #[.int .u64 ((x * y / 18446744073709551616 : Nat) : Int), .int .u64 ((x * y % 18446744073709551616 : Nat) : Int)]) ∧ w' = w := by
  obtain ⟨bd, bt, bw, hhi⟩ := Lib.mul64_hi x y hx hy
  have ba := Lib.half_mul_le (a := x / 4294967296) (b := y / 4294967296) (by omega) (by omega)
  have bb := Lib.half_mul_le (a := x / 4294967296) (b := y % 4294967296) (by omega) (by omega)
  have bc := Lib.half_mul_le (a := x % 4294967296) (b := y / 4294967296) (by omega) (by omega)
  have ba' : x / 4294967296 * (y / 4294967296) < 18446744073709551616 := by omega
  have bb' : x / 4294967296 * (y % 4294967296) < 18446744073709551616 := by omega
  have bc' : x % 4294967296 * (y / 4294967296) < 18446744073709551616 := by omega
  have bh1 : x / 4294967296 * (y / 4294967296) + (x / 4294967296 * (y % 4294967296) + x % 4294967296 * (y % 4294967296) / 4294967296) / 4294967296 < 18446744073709551616 := by omega
  have bh : x / 4294967296 * (y / 4294967296) + (x / 4294967296 * (y % 4294967296) + x % 4294967296 * (y % 4294967296) / 4294967296) / 4294967296 + ((x / 4294967296 * (y % 4294967296) + x % 4294967296 * (y % 4294967296) / 4294967296) % 4294967296 + x % 4294967296 * (y / 4294967296)) / 4294967296 < 18446744073709551616 := by omega
  go_enter Try.func50, Try.ntmps50
  go_wp2
  simp only [M64.maskN x hx, M64.maskN y hy, M64.divN, M64.mulN, M64.addN, M64.wrapN _ bd, M64.wrapN _ bb', M64.wrapN _ bt, M64.maskN _ bt, M64.wrapN _ bc', M64.wrapN _ bw, M64.wrapN _ ba', M64.wrapN _ bh1, M64.wrapN _ bh, M64.wrapM (x * y)]
  rw [hhi]
  go_ret2
  exact ⟨rfl, rfl⟩
/-- The product's two halves. -/
theorem mul64_any (x y p : Int) (hp : p = x * y) (hx : 0 ≤ x ∧ x < 18446744073709551616) (hy : 0 ≤ y ∧ y < 18446744073709551616) (w : World) :
    Calls Try.prog 50 #[.int .u64 x, .int .u64 y] w fun e w' => e = .returned (.tuple #[.int .u64 (p / 18446744073709551616), .int .u64 (p % 18446744073709551616)]) ∧ w' = w := by
  obtain ⟨a, rfl⟩ := Int.eq_ofNat_of_zero_le hx.1
  obtain ⟨b, rfl⟩ := Int.eq_ofNat_of_zero_le hy.1
  have := mul64_nat a b (by omega) (by omega) w
  rw [Int.natCast_ediv, Int.natCast_emod, Int.natCast_mul, ← hp] at this
  exact this
theorem add64_any (x y c : Int) (hx : 0 ≤ x ∧ x < 18446744073709551616) (hy : 0 ≤ y ∧ y < 18446744073709551616) (hc : 0 ≤ c ∧ c ≤ 1) (w : World) :
    (callFunc 51 #[.int .u64 x, .int .u64 y, .int .u64 c]).run Try.prog w =
      .ok (.value (.tuple #[.int .u64 ((x + y + c) % 18446744073709551616), .int .u64 ((x + y + c) / 18446744073709551616)])) w := by
  rw [run_callFunc_extern Try.func51 (by kernel_rfl) (by kernel_rfl) (by kernel_rfl) (e := add64Entry) (by kernel_rfl), run_add64 x y c (by omega) (by omega) (by omega) (by omega)]
  rfl
/-- A wide: its two halves. -/
def wide (h l : Int) : List Int := [h, l]
theorem infoW (h l : Int) : (Try.prog.info? 73).map (·.size) = some (kis .u64 [h, l]).length := by kernel_rfl
def PlusR (w : World) (h l : Int) (wr : World) : Prop := ArK .u64 wr w.heap.size 73 [h, l] ∧ ArK .u64 wr (w.heap.size + 1) 73 [0, 0] ∧ Kp0 w wr
theorem PlusR.start (w : World) (h l : Int) : PlusR w h l ((w.alloc (.cells (kis .u64 [h, l]).toArray 73)).alloc (.cells (kis .u64 [0, 0]).toArray 73)) :=
  ⟨(ark0 w _ _).kp0 ((Kp.refl _ _).alloc _), ark1 w _ _ _, ((Kp.refl _ w).alloc _).alloc _⟩
theorem mul64_hl (x y hi lo : Int) (hp : hi * 18446744073709551616 + lo = x * y) (hlo : 0 ≤ lo ∧ lo < 18446744073709551616) (hx : 0 ≤ x ∧ x < 18446744073709551616) (hy : 0 ≤ y ∧ y < 18446744073709551616) (w : World) :
    Calls Try.prog 50 #[.int .u64 x, .int .u64 y] w fun e w' => e = .returned (.tuple #[.int .u64 hi, .int .u64 lo]) ∧ w' = w := by
  have := mul64_any x y _ hp hx hy w
  rwa [show (hi * 18446744073709551616 + lo) / 18446744073709551616 = hi by omega, show (hi * 18446744073709551616 + lo) % 18446744073709551616 = lo by omega] at this
theorem add64_sc (x y c s d : Int) (h : x + y + c = d * 18446744073709551616 + s) (hs : 0 ≤ s ∧ s < 18446744073709551616) (hx : 0 ≤ x ∧ x < 18446744073709551616) (hy : 0 ≤ y ∧ y < 18446744073709551616) (hc : 0 ≤ c ∧ c ≤ 1) (w : World) :
    (callFunc 51 #[.int .u64 x, .int .u64 y, .int .u64 c]).run Try.prog w = .ok (.value (.tuple #[.int .u64 s, .int .u64 d])) w := by
  rw [add64_any x y c hx hy hc w, h, show (d * 18446744073709551616 + s) / 18446744073709551616 = d by omega, show (d * 18446744073709551616 + s) % 18446744073709551616 = s by omega]
set_option maxRecDepth 20000 in
set_option maxHeartbeats 4000000 in
theorem plus_any (h l a b p : Int) (w : World) (hpp : p = a * b) (hh : 0 ≤ h ∧ h < 18446744073709551616) (hl : 0 ≤ l ∧ l < 18446744073709551616) (ha : 0 ≤ a ∧ a < 18446744073709551616) (hb : 0 ≤ b ∧ b < 18446744073709551616) (hv : h * 18446744073709551616 + l + p < 340282366920938463463374607431768211456) :
    Calls Try.prog 42 #[.agg (kis .u64 [h, l]).toArray, .int .u64 a, .int .u64 b] w fun x w' => x = .returned (.agg (kis .u64 [(h * 18446744073709551616 + l + p) / 18446744073709551616, (h * 18446744073709551616 + l + p) % 18446744073709551616]).toArray) ∧ Kp0 w w' := by
  have hp0 : 0 ≤ p := by rw [hpp]; exact Int.mul_nonneg ha.1 hb.1
  obtain ⟨hi, lo, hhl, hlo, hhi⟩ : ∃ hi lo : Int, hi * 18446744073709551616 + lo = p ∧ (0 ≤ lo ∧ lo < 18446744073709551616) ∧ (0 ≤ hi ∧ hi < 18446744073709551616) := ⟨p / 18446744073709551616, p % 18446744073709551616, by omega, by omega, by omega⟩
  obtain ⟨l1, c1, hs1, hl1, hc1b⟩ : ∃ l1 c1 : Int, l + lo + 0 = c1 * 18446744073709551616 + l1 ∧ (0 ≤ l1 ∧ l1 < 18446744073709551616) ∧ (0 ≤ c1 ∧ c1 ≤ 1) := ⟨(l + lo) % 18446744073709551616, (l + lo) / 18446744073709551616, by omega, by omega, by omega⟩
  obtain ⟨h1, hs2, hh1⟩ : ∃ h1 : Int, h + hi + c1 = 0 * 18446744073709551616 + h1 ∧ (0 ≤ h1 ∧ h1 < 18446744073709551616) := ⟨h + hi + c1, by omega, by omega⟩
  have q1 : (h * 18446744073709551616 + l + p) / 18446744073709551616 = h1 := by omega
  have q2 : (h * 18446744073709551616 + l + p) % 18446744073709551616 = l1 := by omega
  rw [q1, q2]
  have e1 := fun w => add64_sc l lo 0 l1 c1 hs1 hl1 hl hlo (by omega) w
  have e2 := fun w => add64_sc h hi c1 h1 0 hs2 hh1 hh hhi hc1b w
  have HM := Lib.hid (fun w => mul64_hl a b hi lo (hhl.trans hpp) hlo ha hb w)
  clear q1 q2 hs1 hs2 hhl hpp hv hp0
  go_enter Try.func42, Try.ntmps42
  go_upto_region 1 with (fail)
  have HR0 := Lib.hid (PlusR.start w h l)
  change Code.wp _ _ _ _ ((w.alloc (.cells (kis .u64 [h, l]).toArray 73)).alloc (.cells (kis .u64 [0, 0]).toArray 73))
  generalize ((w.alloc (.cells (kis .u64 [h, l]).toArray 73)).alloc (.cells (kis .u64 [0, 0]).toArray 73)) = w1 at HR0
  have hc1 := HR0.out.1.cell' 0 (x := h) rfl
  have hc2 := HR0.out.1.cell' 1 (x := l) rfl
  go_upto_region 4 with (go_at_call 50; refine (HM.out _).mono ?_; rintro e x1 ⟨rfl, hx1⟩; rw [hx1]; clear hx1)
  clear e1 e2
  go_wp2_with (
    (refine wl_store_blk rfl 73 (.tmp 6) (.tmp 33) rfl (w.heap.size + 1) _ _ (kis .u64 [h1, l1]) rfl rfl HR0.out.2.1 (infoW _ _) rfl (kis_ones _ _) ?_
     intro w7 hA7 hK7
     have HA7 := Lib.hid hA7
     have HK7 := Lib.hid hK7
     clear hA7 hK7))
  refine ret_blk 6 73 73 (w.heap.size + 1) (kis .u64 [h1, l1]) _ rfl rfl HA7.out Try.underlying73 rfl (infoW _ _) rfl ?_
  exact ⟨rfl, HR0.out.2.2.trans HK7.out (fun _ _ h => h) (fun i hi e => by omega)⟩
end Go.Proofs.Ytcnehbfcagghpaa
namespace Go.Proofs.Ytcnehbfcagghpaa
open Go Go.RowKit
theorem or13 (h l : Int) (hh : 0 ≤ h ∧ h < 2251799813685248) (hl : 0 ≤ l ∧ l < 18446744073709551616) : bits .or .u64 (h * 8192) (l / 2251799813685248) = h * 8192 + l / 2251799813685248 :=
  bits_join .u64 64 (by decide) (fun n h0 h1 => by simp [IntKind.wrap, IntKind.bits, IntKind.signed] at h1 ⊢; omega) 13 _ _ (by omega) (by omega) (by omega) (by omega) (by omega) (by omega)
set_option maxRecDepth 20000 in
set_option maxHeartbeats 4000000 in
theorem split_any (h l : Int) (w : World) (hh : 0 ≤ h ∧ h < 2251799813685248) (hl : 0 ≤ l ∧ l < 18446744073709551616) :
    Calls Try.prog 43 #[.agg (kis .u64 [h, l]).toArray] w fun x w' => x = .returned (.tuple #[.int .u64 (l % 2251799813685248), .int .u64 (h * 8192 + l / 2251799813685248)]) ∧ Kp0 w w' := by
  have hm := F5.and51 l hl.1 hl.2
  have ho := or13 h l hh hl
  go_enter Try.func43, Try.ntmps43
  go_upto_region 1 with (fail)
  have HR0 := Lib.hid (ark0 (k := .u64) w 73 [h, l])
  have HK0 := Lib.hid ((Kp.refl (fun _ => False) w).alloc (.cells (kis .u64 [h, l]).toArray 73))
  change Code.wp _ _ _ _ (w.alloc (.cells (kis .u64 [h, l]).toArray 73))
  generalize (w.alloc (.cells (kis .u64 [h, l]).toArray 73)) = w1 at HR0 HK0
  have hc1 := HR0.out.cell' 0 (x := h) rfl
  have hc2 := HR0.out.cell' 1 (x := l) rfl
  go_region
  all_goals
    go_wp2
    go_ret2
    exact ⟨rfl, HK0.out.drew⟩
end Go.Proofs.Ytcnehbfcagghpaa
