/- Package cipher: rows turned, columns mixed. -/
import Derived.Test.YtomlednobmaaeaaDoorCiC
namespace Go.Proofs.YtomlednobmaaeaaDoor
open Go Go.RowKit
open Aes (twB)
def msk (r : Nat) : BitVec 32 := 255#32 <<< (24 - 8 * r)
def shS (c : List (BitVec 32)) : Nat → List (BitVec 32)
  | 0 => z4
  | t + 1 => (shS c t).set (t / 4) ((shS c t).getD (t / 4) 0#32 ||| (c.getD ((t / 4 + t % 4) % 4) 0#32 &&& msk (t % 4)))
def shW (c : List (BitVec 32)) : List (BitVec 32) := shS c 16
theorem shS_len (c : List (BitVec 32)) : ∀ t, (shS c t).length = 4
  | 0 => rfl
  | t + 1 => by rw [shS, List.length_set, shS_len c t]
theorem getD_some {α : Type} {l : List α} {n : Nat} (h : n < l.length) (d : α) : l[n]? = some (l.getD n d) := by
  rw [List.getD_eq_getElem?_getD, List.getElem?_eq_getElem h]
  rfl
theorem sh_step {c : List (BitVec 32)} (h : c.length = 4) (i r : Nat) (hi : i < 4) (hr : r < 4) : ∃ (x y : BitVec 32) (k s : Nat), (shS c (4 * i + r))[i]? = some x ∧ c[k]? = some y ∧ k < 4 ∧ ((i : Int) + (r : Int)).tmod 4 = (k : Int) ∧ (24 : Int) - 8 * (r : Int) = (s : Int) ∧ IntKind.u32.wrap (255 * 2 ^ s) = ((msk r).toNat : Int) ∧ (shS c (4 * i + r)).set i (x ||| (y &&& msk r)) = shS c (4 * i + (r + 1)) := by
  have hl := shS_len c (4 * i + r)
  refine ⟨_, _, (i + r) % 4, 24 - 8 * r, getD_some (by rw [hl]; exact hi) 0#32, getD_some (by rw [h]; omega) 0#32, by omega, ?_, by omega, ?_, ?_⟩
  · rw [Int.tmod_eq_emod_of_nonneg (by omega)]
    omega
  · have : r = 0 ∨ r = 1 ∨ r = 2 ∨ r = 3 := by omega
    rcases this with rfl | rfl | rfl | rfl <;> decide
  · rw [← Nat.add_assoc, shS, show (4 * i + r) / 4 = i by omega, show (4 * i + r) % 4 = r by omega]
set_option maxRecDepth 20000 in
set_option maxHeartbeats 4000000 in
theorem bsh_any (cs : List (BitVec 32)) (w : World) (hc : cs.length = 4) :
    Calls Tryd.prog 27 #[.agg (u32s cs).toArray] w fun e w' => e = .returned (.agg (u32s (shW cs)).toArray) ∧ Kp0 w w' := by
  have HS := Lib.hid (sh_step hc)
  obtain ⟨F, hF⟩ : ∃ F, F = shS cs := ⟨_, rfl⟩
  have HX : Hid ((F 16).length = 4 ∧ F 0 = z4) := Lib.hid (by rw [hF]; exact ⟨shS_len cs 16, rfl⟩)
  rw [show shW cs = F 16 by rw [hF]; rfl]
  rw [← hF] at HS
  clear hF hc
  go_enter Tryd.func27, Tryd.ntmps27
  go_upto_region 2 with (fail)
  have HR := Lib.hid (rows3 w 43 (u32s cs) 43 (u32s z4) 43 (u32s z4))
  change Code.wp _ _ _ _ (((w.alloc (.cells (u32s cs).toArray 43)).alloc (.cells (u32s z4).toArray 43)).alloc (.cells (u32s z4).toArray 43))
  generalize (((w.alloc (.cells (u32s cs).toArray 43)).alloc (.cells (u32s z4).toArray 43)).alloc (.cells (u32s z4).toArray 43)) = w1 at HR
  go_wp2
  go_loopg [7] 4 (fun g i wr => ∃ (n : Nat), i = .int .i64 n ∧ n ≤ 4 ∧ g = 4 - n ∧ Rows' w wr [(43, u32s cs), (43, u32s z4), (43, u32s (F (4 * n)))])
  case atStart => exact ⟨0, rfl, by omega, rfl, by rw [Nat.mul_zero, HX.out.2]; exact HR.out⟩
  case round =>
    obtain ⟨n, rfl, hn, rfl, hr⟩ := hrel
    have HR1 := Lib.hid hr
    clear hr HR
    by_cases h : n < 4
    · obtain ⟨hb, HB⟩ : ∃ b : Bool, Hid (b = true) := ⟨true, Lib.hid rfl⟩
      have hn4 : (n : Int) < 4 := by omega
      go_wp2
      go_loopg [10] 4 (fun g i wr => ∃ (m : Nat), i = .int .i64 m ∧ m ≤ 4 ∧ g = 4 - m ∧ Rows' w wr [(43, u32s cs), (43, u32s z4), (43, u32s (F (4 * n + m)))])
      case atStart => exact ⟨0, rfl, by omega, rfl, HR1.out⟩
      case round =>
        obtain ⟨m, rfl, hm, rfl, hr⟩ := hrel
        have HR2 := Lib.hid hr
        clear hr HR1
        by_cases h2 : m < 4
        · obtain ⟨x, y, k, s, h1, h2, h3, h4, h5, h6, h7⟩ := HS.out n m h h2
          have hc1 := (HR2.out.blk 2 rfl (g := w.heap.size + 1 + 1) rfl).cellV n (u32s_get h1)
          have hf1 := blk_frozen (HR2.out.blk 2 rfl (g := w.heap.size + 1 + 1) rfl) n
          have hc2 := (HR2.out.blk 0 rfl (g := w.heap.size) rfl).cellV k (u32s_get h2)
          have hk4 : (k : Int) < 4 := by omega
          have hs24 : (s : Int) ≤ 24 := by omega
          have H7 := Lib.hid h7
          clear h1 h2 h7
          go_upto_region 9 with (fail)
          go_region
          go_wp2
          go_roundg (4 - (m + 1))
          case measure => omega
          case rel =>
            refine ⟨m + 1, by go_num, by omega, rfl, ?_⟩
            have hs := HR2.out.drew.set 2 rfl n (.int .u32 ((x ||| (y &&& msk m)).toNat : Int)) (g := w.heap.size + 1 + 1) rfl
            rw [f32_and, f32_or]
            rw [u32s_set, H7.out] at hs
            exact hs
        · obtain rfl : m = 4 := by omega
          have HR3 : Hid (Rows' w _ [(43, u32s cs), (43, u32s z4), (43, u32s (F (4 * (n + 1))))]) := Lib.hid HR2.out
          clear h2 HR2
          go_wp2
          go_roundg (4 - (n + 1))
          case measure => omega
          case rel => exact ⟨n + 1, by go_num, by omega, rfl, HR3.out⟩
    · obtain rfl : n = 4 := by omega
      obtain ⟨rs, hrs⟩ : ∃ rs, rs = F 16 := ⟨_, rfl⟩
      have HXL : Hid (rs.length = 4) := Lib.hid (by rw [hrs]; exact HX.out.1)
      have HR3 : Hid (Rows' w _ [(43, u32s cs), (43, u32s z4), (43, u32s rs)]) := Lib.hid (by rw [hrs]; exact HR1.out)
      have HE := Lib.hid hrs
      clear HX HS hrs HR1
      go_wp2_with (first
        | (refine wl_load_blk rfl 43 (.tmp 3) rfl (w.heap.size + 1 + 1) _ _ rfl (HR3.out.blk 2 rfl rfl) _ Tryd.underlying43 rfl (infoBk HXL.out) ?_)
        | (refine wl_store_blk rfl 43 (.tmp 2) (.tmp 32) rfl (w.heap.size + 1) _ _ (u32s rs) rfl rfl (HR3.out.blk 1 rfl rfl) (infoBk HXL.out) (len_of (T := 43) (infoBk (cs := z4) rfl) (infoBk HXL.out)) (kis_ones _ _) ?_
           intro w7 hA7 hK7
           have HA7 := Lib.hid hA7
           have HK7 := Lib.hid hK7
           clear hA7 hK7))
      refine ret_blk 2 43 43 (w.heap.size + 1) (u32s rs) _ rfl rfl HA7.out Tryd.underlying43 rfl (infoBk HXL.out) rfl ?_
      exact ⟨by rw [HE.out], HR3.out.kp.trans HK7.out (fun _ _ h => h) (fun i hi e => by omega)⟩
theorem size32 (w : World) : (sizeOf 41).run Tryd.prog w = .ok 1 w := by
  obtain ⟨i, h, h2⟩ : ∃ i, Tryd.prog.info? 41 = some i ∧ Tryd.prog.cellsOf 41 = 1 := by
    have : (Tryd.prog.info? 41).isSome = true := by kernel_rfl
    obtain ⟨i, hi⟩ := Option.isSome_iff_exists.1 this
    exact ⟨i, hi, by kernel_rfl⟩
  rw [run_sizeOf _ h, h2]
theorem bk_index {cs : List (BitVec 32)} {n : Nat} {c : BitVec 32} (hc : cs[n]? = some c) (hn : n < 4) (w : World) : (Instr.index 43 (.agg (u32s cs).toArray) (.int .i64 (n : Int))).run Tryd.prog w = .ok (.int .u32 (c.toNat : Int)) w :=
  run_index_cells 43 41 4 .u32 .i64 (u32s cs) n _ (u32s_get hc) Tryd.underlying43 Tryd.underlying41 (size32 w) hn
def mx1 (a : BitVec 32) : BitVec 32 := a ^^^ rot a 8
def mx2 (a : BitVec 32) : BitVec 64 := (mx1 a).setWidth 64
def mx3 (a : BitVec 32) : BitVec 32 := (twB (mx2 a)).setWidth 32
def mx4 (a : BitVec 32) : BitVec 32 := mx3 a ^^^ rot a 8
def mx5 (a : BitVec 32) : BitVec 32 := mx4 a ^^^ rot a 16
def mixC (a : BitVec 32) : BitVec 32 := mx5 a ^^^ rot a 24
theorem mx1_val (x : BitVec 32) : bits .xor .u32 (x.toNat : Int) ((rot x 8).toNat : Int) = ((mx1 x).toNat : Int) := f32_xor x (rot x 8)
theorem mx2_val (x : BitVec 32) : IntKind.u64.wrap ((mx1 x).toNat : Int) = ((mx2 x).toNat : Int) := by
  rw [f_widen, wrap64]
  rfl
theorem mx3_val (x : BitVec 32) : ((twB (mx2 x)).toNat : Int) % 4294967296 = ((mx3 x).toNat : Int) := by
  rw [← IntKind.wrap_u32', f_trunc]
  rfl
theorem mx4_val (x : BitVec 32) : bits .xor .u32 ((mx3 x).toNat : Int) ((rot x 8).toNat : Int) = ((mx4 x).toNat : Int) := f32_xor _ _
theorem mx5_val (x : BitVec 32) : bits .xor .u32 ((mx4 x).toNat : Int) ((rot x 16).toNat : Int) = ((mx5 x).toNat : Int) := f32_xor _ _
theorem mx6_val (x : BitVec 32) : bits .xor .u32 ((mx5 x).toNat : Int) ((rot x 24).toNat : Int) = ((mixC x).toNat : Int) := f32_xor _ _
def mixW (cs : List (BitVec 32)) : List (BitVec 32) := cs.map mixC
theorem rot8 (a : BitVec 32) : rot a (Int.toNat 8) = rot a 8 := rfl
set_option maxRecDepth 20000 in
set_option maxHeartbeats 4000000 in
theorem bmx_any (cs : List (BitVec 32)) (w : World) (hc : cs.length = 4) :
    Calls Tryd.prog 28 #[.agg (u32s cs).toArray] w fun e w' => e = .returned (.agg (u32s (mixW cs)).toArray) ∧ Kp0 w w' := by
  obtain ⟨rs, hrs⟩ : ∃ rs, rs = mixW cs := ⟨_, rfl⟩
  have HX : Hid (rs.length = 4 ∧ cs.length = 4) := Lib.hid ⟨by rw [hrs]; simp [mixW, hc], hc⟩
  have HS : Hid (∀ n, n < 4 → ∃ x, cs[n]? = some x ∧ (upT n cs rs)[n]? = some x ∧ (upT n cs rs).set n (mixC x) = upT (n + 1) cs rs) := Lib.hid (by
    intro n hn
    have h1 : cs[n]? = some (cs[n]'(by omega)) := List.getElem?_eq_getElem _
    have h3 : rs[n]? = some (mixC (cs[n]'(by omega))) := by rw [hrs]; simp [mixW, h1]
    exact ⟨_, h1, upT_step (by rw [HX.out.1, hc]) h1 h3⟩)
  rw [← hrs]
  clear hrs hc
  go_enter Tryd.func28, Tryd.ntmps28
  go_upto_region 1 with (fail)
  have HR := Lib.hid (rows2 w 43 (u32s cs) 43 (u32s z4))
  change Code.wp _ _ _ _ ((w.alloc (.cells (u32s cs).toArray 43)).alloc (.cells (u32s z4).toArray 43))
  generalize ((w.alloc (.cells (u32s cs).toArray 43)).alloc (.cells (u32s z4).toArray 43)) = w1 at HR
  go_wp2_with (refine wl_load_blk rfl 43 (.tmp 1) rfl (w.heap.size) _ _ rfl (HR.out.blk 0 rfl rfl) _ Tryd.underlying43 rfl (infoBk HX.out.2) ?_)
  go_loopg [8] 4 (fun g i wr => ∃ (n : Nat), i = .int .i64 n ∧ n ≤ 4 ∧ g = 4 - n ∧ Rows' w wr [(43, u32s (upT n cs rs)), (43, u32s z4)])
  case atStart => exact ⟨0, rfl, by omega, rfl, by rw [upT_zero]; exact HR.out⟩
  case round =>
    obtain ⟨n, rfl, hn, rfl, hr⟩ := hrel
    have HR1 := Lib.hid hr
    clear hr HR
    by_cases h : n < 4
    · obtain ⟨x, h1, h2, h3⟩ := HS.out n h
      have H1 := Lib.hid h2
      have H3 := Lib.hid h3
      have hn4 : (n : Int) < 4 := by omega
      have hix := bk_index h1 h wr
      have hxv := mx1_val x
      have hwx := mx2_val x
      have hm3 := mx3_val x
      have hm4 := mx4_val x
      have hm5 := mx5_val x
      have hm6 := mx6_val x
      have hqc : ∀ wq, Kp0 wr wq → ∃ v, wq.cell? ⟨w.heap.size, n, none⟩ = some v ∧ wq.frozen? ⟨w.heap.size, n, none⟩ = false := fun wq hk =>
        ⟨_, ((HR1.out.kp0 hk).blk 0 rfl (g := w.heap.size) rfl).cellV n (u32s_get H1.out), blk_frozen ((HR1.out.kp0 hk).blk 0 rfl (g := w.heap.size) rfl) n⟩
      clear h1 h2 h3
      have HK := Lib.hid (Kp.refl (fun _ => False) wr)
      go_wp2_with (first
        | (go_at_call 22; refine (rot_int _ _ _ (by decide)).mono ?_; rintro e w2 ⟨rfl, hk2⟩; have HK := Lib.hid (HK.out.tr hk2); clear hk2; obtain ⟨vv, hcw, hfw⟩ := hqc _ HK.out)
        | (go_at_call 24; refine (twice_any _ _).mono ?_; rintro e w2 ⟨rfl, hk2⟩; have HK := Lib.hid (HK.out.tr hk2); clear hk2))
      go_roundg (4 - (n + 1))
      case measure => omega
      case rel =>
        refine ⟨n + 1, by go_num, by omega, rfl, ?_⟩
        have hs := (HR1.out.kp0 HK.out).set 0 rfl n (.int .u32 ((mixC x).toNat : Int)) (g := w.heap.size) rfl
        rw [u32s_set, H3.out] at hs
        exact hs
    · obtain rfl : n = 4 := by omega
      rw [upT_all (by rw [HX.out.2]; exact Nat.le_refl _) (by rw [HX.out.1]; exact Nat.le_refl _)] at HR1
      have HXL := Lib.hid HX.out.1
      clear HX HS
      go_wp2_with (first
        | (refine wl_load_blk rfl 43 (.tmp 1) rfl (w.heap.size) _ _ rfl (HR1.out.blk 0 rfl rfl) _ Tryd.underlying43 rfl (infoBk HXL.out) ?_)
        | (refine wl_store_blk rfl 43 (.tmp 2) (.tmp 32) rfl (w.heap.size + 1) _ _ (u32s rs) rfl rfl (HR1.out.blk 1 rfl rfl) (infoBk HXL.out) (len_of (T := 43) (infoBk (cs := z4) rfl) (infoBk HXL.out)) (kis_ones _ _) ?_
           intro w7 hA7 hK7
           have HA7 := Lib.hid hA7
           have HK7 := Lib.hid hK7
           clear hA7 hK7))
      refine ret_blk 2 43 43 (w.heap.size + 1) (u32s rs) _ rfl rfl HA7.out Tryd.underlying43 rfl (infoBk HXL.out) rfl ?_
      exact ⟨rfl, HR1.out.kp.trans HK7.out (fun _ _ h => h) (fun i hi e => by omega)⟩
end Go.Proofs.YtomlednobmaaeaaDoor
