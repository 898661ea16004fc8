/- Package cipher: each byte's other one, in a block. -/
import Derived.Test.YtomlednobmaaeaaDoorCiB
import Derived.Test.YtomlednobmaaeaaDoorRegs
namespace Go.Proofs.YtomlednobmaaeaaDoor
open Go Go.RowKit
open Aes (otB)
def pairW (a b : BitVec 32) : BitVec 64 := a.setWidth 64 <<< 32 ||| b.setWidth 64
def othH (a b : BitVec 32) : BitVec 32 := (otB (pairW a b) >>> 32).setWidth 32
def othL (a b : BitVec 32) : BitVec 32 := (otB (pairW a b)).setWidth 32
def othW : List (BitVec 32) → List (BitVec 32)
  | [a, b, c, d] => [othH a b, othL a b, othH c d, othL c d]
  | l => l
def othS (n : Nat) (l : List (BitVec 32)) : List (BitVec 32) := (othW l).take (2 * n) ++ l.drop (2 * n)
theorem len4 {α : Type} {l : List α} (h : l.length = 4) : ∃ a b c d, l = [a, b, c, d] := by
  match l, h with
  | [a, b, c, d], _ => exact ⟨a, b, c, d, rfl⟩
theorem oth_step {l : List (BitVec 32)} (h : l.length = 4) (n : Nat) (hn : n < 2) : ∃ x y, (othS n l)[2 * n]? = some x ∧ (othS n l)[2 * n + 1]? = some y ∧ ((othS n l).set (2 * n) (othH x y)).set (2 * n + 1) (othL x y) = othS (n + 1) l := by
  obtain ⟨a, b, c, d, rfl⟩ := len4 h
  have : n = 0 ∨ n = 1 := by omega
  rcases this with rfl | rfl
  · exact ⟨a, b, rfl, rfl, rfl⟩
  · exact ⟨c, d, rfl, rfl, rfl⟩
theorem f_widen (x : BitVec 32) : (x.toNat : Int) = ((x.setWidth 64).toNat : Int) := by
  rw [BitVec.toNat_setWidth, Nat.mod_eq_of_lt (by have := x.isLt; omega)]
theorem f_trunc (x : BitVec 64) : IntKind.u32.wrap (x.toNat : Int) = ((x.setWidth 32).toNat : Int) := by
  rw [IntKind.wrap_u32', BitVec.toNat_setWidth, Int.natCast_emod]
  rfl
theorem pair_val (x y : BitVec 32) : bits .or .u64 (IntKind.u64.wrap (x.toNat * 4294967296)) (y.toNat : Int) = ((pairW x y).toNat : Int) := by
  rw [f_widen x, f_widen y, f64_shl (x.setWidth 64) 32 (c := ((x.setWidth 64).toNat : Int) * 4294967296) rfl, f64_or]
  rfl
theorem othH_val (x y : BitVec 32) : IntKind.u32.wrap ((otB (pairW x y)).toNat / 4294967296) = ((othH x y).toNat : Int) := by
  rw [f_shr (otB (pairW x y)) 32 (by decide), f_trunc]
  rfl
theorem othL_val (x y : BitVec 32) : IntKind.u32.wrap ((otB (pairW x y)).toNat : Int) = ((othL x y).toNat : Int) := by
  rw [f_trunc]
  rfl
set_option maxRecDepth 20000 in
set_option maxHeartbeats 4000000 in
theorem both_any (cs : List (BitVec 32)) (w : World) (hc : cs.length = 4) (hq : Sqr w) :
    Calls Tryd.prog 26 #[.agg (u32s cs).toArray] w fun e w' => e = .returned (.agg (u32s (othW cs)).toArray) ∧ Kp0 w w' := by
  have HS := Lib.hid (oth_step hc)
  obtain ⟨rs, hrs⟩ : ∃ rs, rs = othW cs := ⟨_, rfl⟩
  have HX : Hid (rs.length = 4 ∧ othS 2 cs = rs) := Lib.hid (by rw [hrs]; obtain ⟨a, b, c, d, rfl⟩ := len4 hc; exact ⟨rfl, rfl⟩)
  have HQ := Lib.hid hq
  rw [← hrs]
  clear hc hq hrs
  go_enter Tryd.func26, Tryd.ntmps26
  go_upto_region 1 with (fail)
  have HR := Lib.hid (rows2 w 43 (u32s cs) 43 (u32s z4))
  change Code.wp _ _ _ _ ((w.alloc (.cells (u32s cs).toArray 43)).alloc (.cells (u32s z4).toArray 43))
  generalize ((w.alloc (.cells (u32s cs).toArray 43)).alloc (.cells (u32s z4).toArray 43)) = w1 at HR
  go_wp2
  go_loopg [3] 2 (fun g i wr => ∃ (m n : Nat), i = .int .i64 m ∧ m = 2 * n ∧ n ≤ 2 ∧ g = 2 - n ∧ Rows' w wr [(43, u32s (othS n cs)), (43, u32s z4)])
  case atStart => exact ⟨0, 0, rfl, rfl, by omega, rfl, HR.out⟩
  case round =>
    obtain ⟨m, n, rfl, hm, hn, rfl, hr⟩ := hrel
    have HR1 := Lib.hid hr
    clear hr HR
    by_cases h : n < 2
    · obtain ⟨x, y, h1, h2, h3⟩ := HS.out n h
      rw [← hm] at h1 h2 h3
      have hm4 : m + 1 < 4 := by omega
      have hm4' : (m : Int) < 4 := by omega
      have hm5' : (m : Int) + 1 < 4 := by omega
      have hm6' : 0 ≤ (m : Int) + 1 := by omega
      have hcx := (HR1.out.blk 0 rfl (g := w.heap.size) rfl).cellV m (u32s_get h1)
      have hcy := (HR1.out.blk 0 rfl (g := w.heap.size) rfl).cellV (m + 1) (u32s_get h2)
      have hqx : ∀ wq, Kp0 wr.drew wq → wq.cell? ⟨w.heap.size, m, none⟩ = some (.int .u32 (x.toNat : Int)) := fun wq hk => hk.cell (S := fun _ => False) hcx (fun h => h)
      have hqy : ∀ wq, Kp0 wr.drew wq → wq.cell? ⟨w.heap.size, m + 1, none⟩ = some (.int .u32 (y.toNat : Int)) := fun wq hk => hk.cell (S := fun _ => False) hcy (fun h => h)
      have H3 := Lib.hid h3
      have HM := Lib.hid hm
      have hw1 : IntKind.i64.wrap ((m : Int) + 1) = ((m + 1 : Nat) : Int) := by rw [IntKind.wrap_i64]; omega
      have hwx : IntKind.u64.wrap (x.toNat : Int) = (x.toNat : Int) := by rw [IntKind.wrap_u64]; have := x.isLt; omega
      have hwy : IntKind.u64.wrap (y.toNat : Int) = (y.toNat : Int) := by rw [IntKind.wrap_u64]; have := y.isLt; omega
      have hpv := pair_val x y
      clear h1 h2 h3 hm hcx hcy
      go_upto_region 4 with (fail)
      have HK0 : Hid (Kp0 wr.drew wr.drew) := Lib.hid (Kp.refl _ _)
      refine wp_region_px 13 [] (fun w' : World => Kp0 wr.drew w') (.quiet 0 (.quiet 1 (.quiet 2 (.quiet 3 (.quiet 4 (.quiet 5 (.quiet 6 (.quiet 7 (.quiet 8 (.quiet 9 (.quiet 10 (.eff 11 (.quiet 12 .done))))))))))))) (by kernel_rfl) (by kernel_rfl) (by kernel_rfl) (by kernel_rfl) (fun _ d _ _ _ h => by cases d <;> exact h) HK0.out ?_
      repeat (refine px_quiet (v := ?_) rfl (by rfl) (fun wq hwq => ?_) rfl ?_; rotate_left 1; (focus (go_simp; try (with_reducible rfl); done)); try simp only [List.setIfInBounds_toArray, List.set_cons_zero, List.set_cons_succ])
      refine px_eff rfl (by rfl) (fun K hK => ?_)
      go_simp
      refine (ot_any _ _ ((HQ.out.kp0 HR1.out.kp).kp0 ((Kp.refl _ _).drew))).mono ?_
      rintro e z1 ⟨rfl, hk⟩
      simp only []
      have HK1 : Hid (Kp0 wr.drew z1) := Lib.hid (HK0.out.tr hk)
      clear hk
      refine hK (fun w' : World => Kp0 wr.drew w') _ _ (fun x h => h) HK1.out ?_
      clear hK K
      repeat (refine px_quiet (v := ?_) rfl (by rfl) (fun wq hwq => ?_) rfl ?_; rotate_left 1; (focus (go_simp; try (with_reducible rfl); done)); try simp only [List.setIfInBounds_toArray, List.set_cons_zero, List.set_cons_succ])
      refine px_done ?_
      have HR2 := Lib.hid (HR1.out.kp0 ((Kp.refl _ _).drew.tr HK1.out))
      have hcx := hqx _ HK1.out
      have hcy := hqy _ HK1.out
      have hfx := blk_frozen (HR2.out.blk 0 rfl (g := w.heap.size) rfl) m
      have hfy := blk_frozen (HR2.out.blk 0 rfl (g := w.heap.size) rfl) (m + 1)
      have hoH := othH_val x y
      have hoL := othL_val x y
      clear hqx hqy HR1
      go_wp2
      go_roundg (2 - (n + 1))
      case measure => omega
      case rel =>
        have HMo := HM.out
        refine ⟨m + 2, n + 1, by go_num, by omega, by omega, rfl, ?_⟩
        have hs := (HR2.out.set 0 rfl m (.int .u32 ((othH x y).toNat : Int)) (g := w.heap.size) rfl).set 0 rfl (m + 1) (.int .u32 ((othL x y).toNat : Int)) (g := w.heap.size) rfl
        rw [u32s_set, u32s_set, H3.out] at hs
        exact hs
    · obtain rfl : n = 2 := by omega
      rw [HX.out.2] at HR1
      have HXL := Lib.hid HX.out.1
      clear HX HS
      go_wp2_with (first
        | (refine wl_load_blk rfl 43 (.tmp 1) rfl (w.heap.size) _ _ rfl (HR1.out.blk 0 rfl rfl) _ Tryd.underlying43 rfl (infoBk HXL.out) ?_)
        | (refine wl_store_blk rfl 43 (.tmp 2) (.tmp 31) rfl (w.heap.size + 1) _ _ (u32s rs) rfl rfl (HR1.out.blk 1 rfl rfl) (infoBk HXL.out) (len_of (T := 43) (infoBk (cs := z4) rfl) (infoBk HXL.out)) (kis_ones _ _) ?_
           intro w7 hA7 hK7
           have HA7 := Lib.hid hA7
           have HK7 := Lib.hid hK7
           clear hA7 hK7))
      refine ret_blk 2 43 43 (w.heap.size + 1) (u32s rs) _ rfl rfl HA7.out Tryd.underlying43 rfl (infoBk HXL.out) rfl ?_
      exact ⟨rfl, HR1.out.kp.trans HK7.out (fun _ _ h => h) (fun i hi e => by omega)⟩
end Go.Proofs.YtomlednobmaaeaaDoor
