/- Package cipher: each byte's other one, in a block. Package cipher: rows turned, columns mixed. Columns of four bytes. Package cipher: a block of its bytes, its bytes, the counter and one. -/
import Derived.Test.YtnbfedmecmdjlaaDoorGh
import Derived.Test.YtnbfedmecmdjlaaDoorGa
namespace Go.Proofs.YtnbfedmecmdjlaaDoor
open Go Go.RowKit
open Aes (otB)
def pairW (a b : BitVec 32) : BitVec 64 := a.setWidth 64 <<< 32 ||| b.setWidth 64
def othH (a b : BitVec 32) : BitVec 32 := (otB (pairW a b) >>> 32).setWidth 32
def othL (a b : BitVec 32) : BitVec 32 := (otB (pairW a b)).setWidth 32
def othW : List (BitVec 32) → List (BitVec 32)
  | [a, b, c, d] => [othH a b, othL a b, othH c d, othL c d]
  | l => l
def othS (n : Nat) (l : List (BitVec 32)) : List (BitVec 32) := (othW l).take (2 * n) ++ l.drop (2 * n)
theorem len4 {α : Type} {l : List α} (h : l.length = 4) : ∃ a b c d, l = [a, b, c, d] := by
  match l, h with
  | [a, b, c, d], _ => exact ⟨a, b, c, d, rfl⟩
theorem oth_step {l : List (BitVec 32)} (h : l.length = 4) (n : Nat) (hn : n < 2) : ∃ x y, (othS n l)[2 * n]? = some x ∧ (othS n l)[2 * n + 1]? = some y ∧ ((othS n l).set (2 * n) (othH x y)).set (2 * n + 1) (othL x y) = othS (n + 1) l := by
  obtain ⟨a, b, c, d, rfl⟩ := len4 h
  have : n = 0 ∨ n = 1 := by omega
  rcases this with rfl | rfl
  · exact ⟨a, b, rfl, rfl, rfl⟩
  · exact ⟨c, d, rfl, rfl, rfl⟩
theorem pair_val (x y : BitVec 32) : bits .or .u64 (IntKind.u64.wrap (x.toNat * 4294967296)) (y.toNat : Int) = ((pairW x y).toNat : Int) := by
  rw [f_widen x, f_widen y, f64_shl (x.setWidth 64) 32 (c := ((x.setWidth 64).toNat : Int) * 4294967296) rfl, f64_or]
  rfl
theorem othH_val (x y : BitVec 32) : IntKind.u32.wrap ((otB (pairW x y)).toNat / 4294967296) = ((othH x y).toNat : Int) := by
  rw [f_shr (otB (pairW x y)) 32 (by decide), f_trunc]
  rfl
theorem othL_val (x y : BitVec 32) : IntKind.u32.wrap ((otB (pairW x y)).toNat : Int) = ((othL x y).toNat : Int) := by
  rw [f_trunc]
  rfl
set_option maxRecDepth 20000 in
set_option maxHeartbeats 4000000 in
theorem both_any (cs : List (BitVec 32)) (w : World) (hc : cs.length = 4) (hq : Sqr w) :
    Calls Tryd.prog 89 #[.agg (u32s cs).toArray] w fun e w' => e = .returned (.agg (u32s (othW cs)).toArray) ∧ Kp0 w w' := by
  have HS := Lib.hid (oth_step hc)
  obtain ⟨rs, hrs⟩ : ∃ rs, rs = othW cs := ⟨_, rfl⟩
  have HX : Hid (rs.length = 4 ∧ othS 2 cs = rs) := Lib.hid (by rw [hrs]; obtain ⟨a, b, c, d, rfl⟩ := len4 hc; exact ⟨rfl, rfl⟩)
  have HQ := Lib.hid hq
  rw [← hrs]
  clear hc hq hrs
  go_enter Tryd.func89, Tryd.ntmps89
  go_upto_region 1 with (fail)
  have HR := Lib.hid (rows2 w 84 (u32s cs) 84 (u32s z4))
  change Code.wp _ _ _ _ ((w.alloc (.cells (u32s cs).toArray 84)).alloc (.cells (u32s z4).toArray 84))
  generalize ((w.alloc (.cells (u32s cs).toArray 84)).alloc (.cells (u32s z4).toArray 84)) = w1 at HR
  go_wp2
  go_loopg [3] 2 (fun g i wr => ∃ (m n : Nat), i = .int .i64 m ∧ m = 2 * n ∧ n ≤ 2 ∧ g = 2 - n ∧ Rows' w wr [(84, u32s (othS n cs)), (84, u32s z4)])
  case atStart => exact ⟨0, 0, rfl, rfl, by omega, rfl, HR.out⟩
  case round =>
    obtain ⟨m, n, rfl, hm, hn, rfl, hr⟩ := hrel
    have HR1 := Lib.hid hr
    clear hr HR
    by_cases h : n < 2
    · obtain ⟨x, y, h1, h2, h3⟩ := HS.out n h
      rw [← hm] at h1 h2 h3
      have hm4 : m + 1 < 4 := by omega
      have hm4' : (m : Int) < 4 := by omega
      have hm5' : (m : Int) + 1 < 4 := by omega
      have hm6' : 0 ≤ (m : Int) + 1 := by omega
      have hcx := (HR1.out.blk 0 rfl (g := w.heap.size) rfl).cellV m (u32s_get h1)
      have hcy := (HR1.out.blk 0 rfl (g := w.heap.size) rfl).cellV (m + 1) (u32s_get h2)
      have hqx : ∀ wq, Kp0 wr.drew wq → wq.cell? ⟨w.heap.size, m, none⟩ = some (.int .u32 (x.toNat : Int)) := fun wq hk => hk.cell (S := fun _ => False) hcx (fun h => h)
      have hqy : ∀ wq, Kp0 wr.drew wq → wq.cell? ⟨w.heap.size, m + 1, none⟩ = some (.int .u32 (y.toNat : Int)) := fun wq hk => hk.cell (S := fun _ => False) hcy (fun h => h)
      have H3 := Lib.hid h3
      have HM := Lib.hid hm
      have hw1 : IntKind.i64.wrap ((m : Int) + 1) = ((m + 1 : Nat) : Int) := by rw [IntKind.wrap_i64]; omega
      have hwx : IntKind.u64.wrap (x.toNat : Int) = (x.toNat : Int) := by rw [IntKind.wrap_u64]; have := x.isLt; omega
      have hwy : IntKind.u64.wrap (y.toNat : Int) = (y.toNat : Int) := by rw [IntKind.wrap_u64]; have := y.isLt; omega
      have hpv := pair_val x y
      clear h1 h2 h3 hm hcx hcy
      go_upto_region 4 with (fail)
      have HK0 : Hid (Kp0 wr.drew wr.drew) := Lib.hid (Kp.refl _ _)
      refine wp_region_px 13 [] (fun w' : World => Kp0 wr.drew w') (.quiet 0 (.quiet 1 (.quiet 2 (.quiet 3 (.quiet 4 (.quiet 5 (.quiet 6 (.quiet 7 (.quiet 8 (.quiet 9 (.quiet 10 (.eff 11 (.quiet 12 .done))))))))))))) (by kernel_rfl) (by kernel_rfl) (by kernel_rfl) (by kernel_rfl) (fun _ d _ _ _ h => by cases d <;> exact h) HK0.out ?_
      repeat (refine px_quiet (v := ?_) rfl (by rfl) (fun wq hwq => ?_) rfl ?_; rotate_left 1; (focus (go_simp; try (with_reducible rfl); done)); try simp only [List.setIfInBounds_toArray, List.set_cons_zero, List.set_cons_succ])
      refine px_eff rfl (by rfl) (fun K hK => ?_)
      go_simp
      refine (ot_any _ _ ((HQ.out.kp0 HR1.out.kp).kp0 ((Kp.refl _ _).drew))).mono ?_
      rintro e z1 ⟨rfl, hk⟩
      simp only []
      have HK1 : Hid (Kp0 wr.drew z1) := Lib.hid (HK0.out.tr hk)
      clear hk
      refine hK (fun w' : World => Kp0 wr.drew w') _ _ (fun x h => h) HK1.out ?_
      clear hK K
      repeat (refine px_quiet (v := ?_) rfl (by rfl) (fun wq hwq => ?_) rfl ?_; rotate_left 1; (focus (go_simp; try (with_reducible rfl); done)); try simp only [List.setIfInBounds_toArray, List.set_cons_zero, List.set_cons_succ])
      refine px_done ?_
      have HR2 := Lib.hid (HR1.out.kp0 ((Kp.refl _ _).drew.tr HK1.out))
      have hcx := hqx _ HK1.out
      have hcy := hqy _ HK1.out
      have hfx := blk_frozen (HR2.out.blk 0 rfl (g := w.heap.size) rfl) m
      have hfy := blk_frozen (HR2.out.blk 0 rfl (g := w.heap.size) rfl) (m + 1)
      have hoH := othH_val x y
      have hoL := othL_val x y
      clear hqx hqy HR1
      go_wp2
      go_roundg (2 - (n + 1))
      case measure => omega
      case rel =>
        have HMo := HM.out
        refine ⟨m + 2, n + 1, by go_num, by omega, by omega, rfl, ?_⟩
        have hs := (HR2.out.set 0 rfl m (.int .u32 ((othH x y).toNat : Int)) (g := w.heap.size) rfl).set 0 rfl (m + 1) (.int .u32 ((othL x y).toNat : Int)) (g := w.heap.size) rfl
        rw [u32s_set, u32s_set, H3.out] at hs
        exact hs
    · obtain rfl : n = 2 := by omega
      rw [HX.out.2] at HR1
      have HXL := Lib.hid HX.out.1
      clear HX HS
      go_wp2_with (first
        | (refine wl_load_blk rfl 84 (.tmp 1) rfl (w.heap.size) _ _ rfl (HR1.out.blk 0 rfl rfl) _ Tryd.underlying84 rfl (infoBk HXL.out) ?_)
        | (refine wl_store_blk rfl 84 (.tmp 2) (.tmp 31) rfl (w.heap.size + 1) _ _ (u32s rs) rfl rfl (HR1.out.blk 1 rfl rfl) (infoBk HXL.out) (len_of (T := 84) (infoBk (cs := z4) rfl) (infoBk HXL.out)) (kis_ones _ _) ?_
           intro w7 hA7 hK7
           have HA7 := Lib.hid hA7
           have HK7 := Lib.hid hK7
           clear hA7 hK7))
      refine ret_blk 2 84 84 (w.heap.size + 1) (u32s rs) _ rfl rfl HA7.out Tryd.underlying84 rfl (infoBk HXL.out) rfl ?_
      exact ⟨rfl, HR1.out.kp.trans HK7.out (fun _ _ h => h) (fun i hi e => by omega)⟩
end Go.Proofs.YtnbfedmecmdjlaaDoor
namespace Go.Proofs.YtnbfedmecmdjlaaDoor
open Go Go.RowKit
open Aes (twB)
def msk (r : Nat) : BitVec 32 := 255#32 <<< (24 - 8 * r)
def shS (c : List (BitVec 32)) : Nat → List (BitVec 32)
  | 0 => z4
  | t + 1 => (shS c t).set (t / 4) ((shS c t).getD (t / 4) 0#32 ||| (c.getD ((t / 4 + t % 4) % 4) 0#32 &&& msk (t % 4)))
def shW (c : List (BitVec 32)) : List (BitVec 32) := shS c 16
theorem shS_len (c : List (BitVec 32)) : ∀ t, (shS c t).length = 4
  | 0 => rfl
  | t + 1 => by rw [shS, List.length_set, shS_len c t]
theorem sh_step {c : List (BitVec 32)} (h : c.length = 4) (i r : Nat) (hi : i < 4) (hr : r < 4) : ∃ (x y : BitVec 32) (k s : Nat), (shS c (4 * i + r))[i]? = some x ∧ c[k]? = some y ∧ k < 4 ∧ ((i : Int) + (r : Int)).tmod 4 = (k : Int) ∧ (24 : Int) - 8 * (r : Int) = (s : Int) ∧ IntKind.u32.wrap (255 * 2 ^ s) = ((msk r).toNat : Int) ∧ (shS c (4 * i + r)).set i (x ||| (y &&& msk r)) = shS c (4 * i + (r + 1)) := by
  have hl := shS_len c (4 * i + r)
  refine ⟨_, _, (i + r) % 4, 24 - 8 * r, getD_some (by rw [hl]; exact hi) 0#32, getD_some (by rw [h]; omega) 0#32, by omega, ?_, by omega, ?_, ?_⟩
  · rw [Int.tmod_eq_emod_of_nonneg (by omega)]
    omega
  · have : r = 0 ∨ r = 1 ∨ r = 2 ∨ r = 3 := by omega
    rcases this with rfl | rfl | rfl | rfl <;> decide
  · rw [← Nat.add_assoc, shS, show (4 * i + r) / 4 = i by omega, show (4 * i + r) % 4 = r by omega]
set_option maxRecDepth 20000 in
set_option maxHeartbeats 4000000 in
theorem bsh_any (cs : List (BitVec 32)) (w : World) (hc : cs.length = 4) :
    Calls Tryd.prog 90 #[.agg (u32s cs).toArray] w fun e w' => e = .returned (.agg (u32s (shW cs)).toArray) ∧ Kp0 w w' := by
  have HS := Lib.hid (sh_step hc)
  obtain ⟨F, hF⟩ : ∃ F, F = shS cs := ⟨_, rfl⟩
  have HX : Hid ((F 16).length = 4 ∧ F 0 = z4) := Lib.hid (by rw [hF]; exact ⟨shS_len cs 16, rfl⟩)
  rw [show shW cs = F 16 by rw [hF]; rfl]
  rw [← hF] at HS
  clear hF hc
  go_enter Tryd.func90, Tryd.ntmps90
  go_upto_region 2 with (fail)
  have HR := Lib.hid (rows3 w 84 (u32s cs) 84 (u32s z4) 84 (u32s z4))
  change Code.wp _ _ _ _ (((w.alloc (.cells (u32s cs).toArray 84)).alloc (.cells (u32s z4).toArray 84)).alloc (.cells (u32s z4).toArray 84))
  generalize (((w.alloc (.cells (u32s cs).toArray 84)).alloc (.cells (u32s z4).toArray 84)).alloc (.cells (u32s z4).toArray 84)) = w1 at HR
  go_wp2
  go_loopg [7] 4 (fun g i wr => ∃ (n : Nat), i = .int .i64 n ∧ n ≤ 4 ∧ g = 4 - n ∧ Rows' w wr [(84, u32s cs), (84, u32s z4), (84, u32s (F (4 * n)))])
  case atStart => exact ⟨0, rfl, by omega, rfl, by rw [Nat.mul_zero, HX.out.2]; exact HR.out⟩
  case round =>
    obtain ⟨n, rfl, hn, rfl, hr⟩ := hrel
    have HR1 := Lib.hid hr
    clear hr HR
    by_cases h : n < 4
    · obtain ⟨hb, HB⟩ : ∃ b : Bool, Hid (b = true) := ⟨true, Lib.hid rfl⟩
      have hn4 : (n : Int) < 4 := by omega
      go_wp2
      go_loopg [10] 4 (fun g i wr => ∃ (m : Nat), i = .int .i64 m ∧ m ≤ 4 ∧ g = 4 - m ∧ Rows' w wr [(84, u32s cs), (84, u32s z4), (84, u32s (F (4 * n + m)))])
      case atStart => exact ⟨0, rfl, by omega, rfl, HR1.out⟩
      case round =>
        obtain ⟨m, rfl, hm, rfl, hr⟩ := hrel
        have HR2 := Lib.hid hr
        clear hr HR1
        by_cases h2 : m < 4
        · obtain ⟨x, y, k, s, h1, h2, h3, h4, h5, h6, h7⟩ := HS.out n m h h2
          have hc1 := (HR2.out.blk 2 rfl (g := w.heap.size + 1 + 1) rfl).cellV n (u32s_get h1)
          have hf1 := blk_frozen (HR2.out.blk 2 rfl (g := w.heap.size + 1 + 1) rfl) n
          have hc2 := (HR2.out.blk 0 rfl (g := w.heap.size) rfl).cellV k (u32s_get h2)
          have hk4 : (k : Int) < 4 := by omega
          have hs24 : (s : Int) ≤ 24 := by omega
          have H7 := Lib.hid h7
          clear h1 h2 h7
          go_upto_region 9 with (fail)
          go_region
          go_wp2
          go_roundg (4 - (m + 1))
          case measure => omega
          case rel =>
            refine ⟨m + 1, by go_num, by omega, rfl, ?_⟩
            have hs := HR2.out.drew.set 2 rfl n (.int .u32 ((x ||| (y &&& msk m)).toNat : Int)) (g := w.heap.size + 1 + 1) rfl
            rw [f32_and, f32_or]
            rw [u32s_set, H7.out] at hs
            exact hs
        · obtain rfl : m = 4 := by omega
          have HR3 : Hid (Rows' w _ [(84, u32s cs), (84, u32s z4), (84, u32s (F (4 * (n + 1))))]) := Lib.hid HR2.out
          clear h2 HR2
          go_wp2
          go_roundg (4 - (n + 1))
          case measure => omega
          case rel => exact ⟨n + 1, by go_num, by omega, rfl, HR3.out⟩
    · obtain rfl : n = 4 := by omega
      obtain ⟨rs, hrs⟩ : ∃ rs, rs = F 16 := ⟨_, rfl⟩
      have HXL : Hid (rs.length = 4) := Lib.hid (by rw [hrs]; exact HX.out.1)
      have HR3 : Hid (Rows' w _ [(84, u32s cs), (84, u32s z4), (84, u32s rs)]) := Lib.hid (by rw [hrs]; exact HR1.out)
      have HE := Lib.hid hrs
      clear HX HS hrs HR1
      go_wp2_with (first
        | (refine wl_load_blk rfl 84 (.tmp 3) rfl (w.heap.size + 1 + 1) _ _ rfl (HR3.out.blk 2 rfl rfl) _ Tryd.underlying84 rfl (infoBk HXL.out) ?_)
        | (refine wl_store_blk rfl 84 (.tmp 2) (.tmp 32) rfl (w.heap.size + 1) _ _ (u32s rs) rfl rfl (HR3.out.blk 1 rfl rfl) (infoBk HXL.out) (len_of (T := 84) (infoBk (cs := z4) rfl) (infoBk HXL.out)) (kis_ones _ _) ?_
           intro w7 hA7 hK7
           have HA7 := Lib.hid hA7
           have HK7 := Lib.hid hK7
           clear hA7 hK7))
      refine ret_blk 2 84 84 (w.heap.size + 1) (u32s rs) _ rfl rfl HA7.out Tryd.underlying84 rfl (infoBk HXL.out) rfl ?_
      exact ⟨by rw [HE.out], HR3.out.kp.trans HK7.out (fun _ _ h => h) (fun i hi e => by omega)⟩
theorem size32 (w : World) : (sizeOf 27).run Tryd.prog w = .ok 1 w := by
  obtain ⟨i, h, h2⟩ : ∃ i, Tryd.prog.info? 27 = some i ∧ Tryd.prog.cellsOf 27 = 1 := by
    have : (Tryd.prog.info? 27).isSome = true := by kernel_rfl
    obtain ⟨i, hi⟩ := Option.isSome_iff_exists.1 this
    exact ⟨i, hi, by kernel_rfl⟩
  rw [run_sizeOf _ h, h2]
theorem bk_index {cs : List (BitVec 32)} {n : Nat} {c : BitVec 32} (hc : cs[n]? = some c) (hn : n < 4) (w : World) : (Instr.index 84 (.agg (u32s cs).toArray) (.int .i64 (n : Int))).run Tryd.prog w = .ok (.int .u32 (c.toNat : Int)) w :=
  run_index_cells 84 27 4 .u32 .i64 (u32s cs) n _ (u32s_get hc) Tryd.underlying84 Tryd.underlying27 (size32 w) hn
def mx1 (a : BitVec 32) : BitVec 32 := a ^^^ rot a 8
def mx2 (a : BitVec 32) : BitVec 64 := (mx1 a).setWidth 64
def mx3 (a : BitVec 32) : BitVec 32 := (twB (mx2 a)).setWidth 32
def mx4 (a : BitVec 32) : BitVec 32 := mx3 a ^^^ rot a 8
def mx5 (a : BitVec 32) : BitVec 32 := mx4 a ^^^ rot a 16
def mixC (a : BitVec 32) : BitVec 32 := mx5 a ^^^ rot a 24
theorem mx1_val (x : BitVec 32) : bits .xor .u32 (x.toNat : Int) ((rot x 8).toNat : Int) = ((mx1 x).toNat : Int) := f32_xor x (rot x 8)
theorem mx2_val (x : BitVec 32) : IntKind.u64.wrap ((mx1 x).toNat : Int) = ((mx2 x).toNat : Int) := by
  rw [f_widen, wrap64]
  rfl
theorem mx3_val (x : BitVec 32) : ((twB (mx2 x)).toNat : Int) % 4294967296 = ((mx3 x).toNat : Int) := by
  rw [← IntKind.wrap_u32', f_trunc]
  rfl
theorem mx4_val (x : BitVec 32) : bits .xor .u32 ((mx3 x).toNat : Int) ((rot x 8).toNat : Int) = ((mx4 x).toNat : Int) := f32_xor _ _
theorem mx5_val (x : BitVec 32) : bits .xor .u32 ((mx4 x).toNat : Int) ((rot x 16).toNat : Int) = ((mx5 x).toNat : Int) := f32_xor _ _
theorem mx6_val (x : BitVec 32) : bits .xor .u32 ((mx5 x).toNat : Int) ((rot x 24).toNat : Int) = ((mixC x).toNat : Int) := f32_xor _ _
def mixW (cs : List (BitVec 32)) : List (BitVec 32) := cs.map mixC
theorem rot8 (a : BitVec 32) : rot a (Int.toNat 8) = rot a 8 := rfl
set_option maxRecDepth 20000 in
set_option maxHeartbeats 4000000 in
theorem bmx_any (cs : List (BitVec 32)) (w : World) (hc : cs.length = 4) :
    Calls Tryd.prog 91 #[.agg (u32s cs).toArray] w fun e w' => e = .returned (.agg (u32s (mixW cs)).toArray) ∧ Kp0 w w' := by
  obtain ⟨rs, hrs⟩ : ∃ rs, rs = mixW cs := ⟨_, rfl⟩
  have HX : Hid (rs.length = 4 ∧ cs.length = 4) := Lib.hid ⟨by rw [hrs]; simp [mixW, hc], hc⟩
  have HS : Hid (∀ n, n < 4 → ∃ x, cs[n]? = some x ∧ (upT n cs rs)[n]? = some x ∧ (upT n cs rs).set n (mixC x) = upT (n + 1) cs rs) := Lib.hid (by
    intro n hn
    have h1 : cs[n]? = some (cs[n]'(by omega)) := List.getElem?_eq_getElem _
    have h3 : rs[n]? = some (mixC (cs[n]'(by omega))) := by rw [hrs]; simp [mixW, h1]
    exact ⟨_, h1, upT_step (by rw [HX.out.1, hc]) h1 h3⟩)
  rw [← hrs]
  clear hrs hc
  go_enter Tryd.func91, Tryd.ntmps91
  go_upto_region 1 with (fail)
  have HR := Lib.hid (rows2 w 84 (u32s cs) 84 (u32s z4))
  change Code.wp _ _ _ _ ((w.alloc (.cells (u32s cs).toArray 84)).alloc (.cells (u32s z4).toArray 84))
  generalize ((w.alloc (.cells (u32s cs).toArray 84)).alloc (.cells (u32s z4).toArray 84)) = w1 at HR
  go_wp2_with (refine wl_load_blk rfl 84 (.tmp 1) rfl (w.heap.size) _ _ rfl (HR.out.blk 0 rfl rfl) _ Tryd.underlying84 rfl (infoBk HX.out.2) ?_)
  go_loopg [8] 4 (fun g i wr => ∃ (n : Nat), i = .int .i64 n ∧ n ≤ 4 ∧ g = 4 - n ∧ Rows' w wr [(84, u32s (upT n cs rs)), (84, u32s z4)])
  case atStart => exact ⟨0, rfl, by omega, rfl, by rw [upT_zero]; exact HR.out⟩
  case round =>
    obtain ⟨n, rfl, hn, rfl, hr⟩ := hrel
    have HR1 := Lib.hid hr
    clear hr HR
    by_cases h : n < 4
    · obtain ⟨x, h1, h2, h3⟩ := HS.out n h
      have H1 := Lib.hid h2
      have H3 := Lib.hid h3
      have hn4 : (n : Int) < 4 := by omega
      have hix := bk_index h1 h wr
      have hxv := mx1_val x
      have hwx := mx2_val x
      have hm3 := mx3_val x
      have hm4 := mx4_val x
      have hm5 := mx5_val x
      have hm6 := mx6_val x
      have hqc : ∀ wq, Kp0 wr wq → ∃ v, wq.cell? ⟨w.heap.size, n, none⟩ = some v ∧ wq.frozen? ⟨w.heap.size, n, none⟩ = false := fun wq hk =>
        ⟨_, ((HR1.out.kp0 hk).blk 0 rfl (g := w.heap.size) rfl).cellV n (u32s_get H1.out), blk_frozen ((HR1.out.kp0 hk).blk 0 rfl (g := w.heap.size) rfl) n⟩
      clear h1 h2 h3
      have HK := Lib.hid (Kp.refl (fun _ => False) wr)
      go_wp2_with (first
        | (go_at_call 64; refine (rot_int _ _ _ (by decide)).mono ?_; rintro e w2 ⟨rfl, hk2⟩; have HK := Lib.hid (HK.out.tr hk2); clear hk2; obtain ⟨vv, hcw, hfw⟩ := hqc _ HK.out)
        | (go_at_call 66; refine (twice_any _ _).mono ?_; rintro e w2 ⟨rfl, hk2⟩; have HK := Lib.hid (HK.out.tr hk2); clear hk2))
      go_roundg (4 - (n + 1))
      case measure => omega
      case rel =>
        refine ⟨n + 1, by go_num, by omega, rfl, ?_⟩
        have hs := (HR1.out.kp0 HK.out).set 0 rfl n (.int .u32 ((mixC x).toNat : Int)) (g := w.heap.size) rfl
        rw [u32s_set, H3.out] at hs
        exact hs
    · obtain rfl : n = 4 := by omega
      rw [upT_all (by rw [HX.out.2]; exact Nat.le_refl _) (by rw [HX.out.1]; exact Nat.le_refl _)] at HR1
      have HXL := Lib.hid HX.out.1
      clear HX HS
      go_wp2_with (first
        | (refine wl_load_blk rfl 84 (.tmp 1) rfl (w.heap.size) _ _ rfl (HR1.out.blk 0 rfl rfl) _ Tryd.underlying84 rfl (infoBk HXL.out) ?_)
        | (refine wl_store_blk rfl 84 (.tmp 2) (.tmp 32) rfl (w.heap.size + 1) _ _ (u32s rs) rfl rfl (HR1.out.blk 1 rfl rfl) (infoBk HXL.out) (len_of (T := 84) (infoBk (cs := z4) rfl) (infoBk HXL.out)) (kis_ones _ _) ?_
           intro w7 hA7 hK7
           have HA7 := Lib.hid hA7
           have HK7 := Lib.hid hK7
           clear hA7 hK7))
      refine ret_blk 2 84 84 (w.heap.size + 1) (u32s rs) _ rfl rfl HA7.out Tryd.underlying84 rfl (infoBk HXL.out) rfl ?_
      exact ⟨rfl, HR1.out.kp.trans HK7.out (fun _ _ h => h) (fun i hi e => by omega)⟩
end Go.Proofs.YtnbfedmecmdjlaaDoor
namespace Go.Proofs.YtnbfedmecmdjlaaDoor
open Aes (ln otB ot8 twB tw8 LOW)
def cvB (a b c d : BitVec 8) : BitVec 32 := a ++ b ++ c ++ d
theorem below32 {i : Nat} (h : i < 32) : i = 0 ∨ i = 1 ∨ i = 2 ∨ i = 3 ∨ i = 4 ∨ i = 5 ∨ i = 6 ∨ i = 7 ∨ i = 8 ∨ i = 9 ∨ i = 10 ∨ i = 11 ∨ i = 12 ∨ i = 13 ∨ i = 14 ∨ i = 15 ∨ i = 16 ∨ i = 17 ∨ i = 18 ∨ i = 19 ∨ i = 20 ∨ i = 21 ∨ i = 22 ∨ i = 23 ∨ i = 24 ∨ i = 25 ∨ i = 26 ∨ i = 27 ∨ i = 28 ∨ i = 29 ∨ i = 30 ∨ i = 31 := by omega
/-- A column's byte k, from below. -/
def by4 (w : BitVec 32) (k : Nat) : BitVec 8 := w.extractLsb' (8 * k) 8
theorem by4_ext {a b : BitVec 32} (h0 : by4 a 0 = by4 b 0) (h1 : by4 a 1 = by4 b 1) (h2 : by4 a 2 = by4 b 2) (h3 : by4 a 3 = by4 b 3) : a = b := by
  apply BitVec.eq_of_getLsbD_eq
  intro j hj
  have key : ∀ k, by4 a k = by4 b k → ∀ i, i < 8 → a.getLsbD (8 * k + i) = b.getLsbD (8 * k + i) := by
    intro k hk i hi
    have : (by4 a k).getLsbD i = (by4 b k).getLsbD i := by rw [hk]
    simpa [by4, hi] using this
  have hq : j / 8 = 0 ∨ j / 8 = 1 ∨ j / 8 = 2 ∨ j / 8 = 3 := by omega
  have e : 8 * (j / 8) + j % 8 = j := by omega
  rcases hq with q | q | q | q
  · have := key 0 h0 (j % 8) (by omega); rw [q] at e; rwa [e] at this
  · have := key 1 h1 (j % 8) (by omega); rw [q] at e; rwa [e] at this
  · have := key 2 h2 (j % 8) (by omega); rw [q] at e; rwa [e] at this
  · have := key 3 h3 (j % 8) (by omega); rw [q] at e; rwa [e] at this
theorem by4_cv (a b c d : BitVec 8) : by4 (cvB a b c d) 3 = a ∧ by4 (cvB a b c d) 2 = b ∧ by4 (cvB a b c d) 1 = c ∧ by4 (cvB a b c d) 0 = d := by
  refine ⟨?_, ?_, ?_, ?_⟩ <;>
  · apply BitVec.eq_of_getLsbD_eq
    intro j hj
    have hy : j = 0 ∨ j = 1 ∨ j = 2 ∨ j = 3 ∨ j = 4 ∨ j = 5 ∨ j = 6 ∨ j = 7 := by omega
    rcases hy with rfl | rfl | rfl | rfl | rfl | rfl | rfl | rfl <;> (simp only [by4, cvB, BitVec.getLsbD_extractLsb', BitVec.getLsbD_append]; simp)
theorem cv_surj (w : BitVec 32) : w = cvB (by4 w 3) (by4 w 2) (by4 w 1) (by4 w 0) :=
  by4_ext (by4_cv _ _ _ _).2.2.2.symm (by4_cv _ _ _ _).2.2.1.symm (by4_cv _ _ _ _).2.1.symm (by4_cv _ _ _ _).1.symm
theorem by4_xor (a b : BitVec 32) (k : Nat) : by4 (a ^^^ b) k = by4 a k ^^^ by4 b k := by
  apply BitVec.eq_of_getLsbD_eq
  intro j hj
  simp [by4, hj]
theorem by4_and (a b : BitVec 32) (k : Nat) : by4 (a &&& b) k = by4 a k &&& by4 b k := by
  apply BitVec.eq_of_getLsbD_eq
  intro j hj
  simp [by4, hj]
theorem by4_or (a b : BitVec 32) (k : Nat) : by4 (a ||| b) k = by4 a k ||| by4 b k := by
  apply BitVec.eq_of_getLsbD_eq
  intro j hj
  simp [by4, hj]
theorem cv_xor (a b c d a' b' c' d' : BitVec 8) : cvB a b c d ^^^ cvB a' b' c' d' = cvB (a ^^^ a') (b ^^^ b') (c ^^^ c') (d ^^^ d') := by
  apply by4_ext <;> rw [by4_xor] <;> simp [by4_cv]
theorem by4_rot (a : BitVec 32) : by4 (rot a 8) 3 = by4 a 2 ∧ by4 (rot a 8) 2 = by4 a 1 ∧ by4 (rot a 8) 1 = by4 a 0 ∧ by4 (rot a 8) 0 = by4 a 3 := by
  refine ⟨?_, ?_, ?_, ?_⟩ <;>
  · apply BitVec.eq_of_getLsbD_eq
    intro j hj
    have hy : j = 0 ∨ j = 1 ∨ j = 2 ∨ j = 3 ∨ j = 4 ∨ j = 5 ∨ j = 6 ∨ j = 7 := by omega
    rcases hy with rfl | rfl | rfl | rfl | rfl | rfl | rfl | rfl <;> simp [by4, rot]
theorem by4_rot16 (a : BitVec 32) : by4 (rot a 16) 3 = by4 a 1 ∧ by4 (rot a 16) 2 = by4 a 0 ∧ by4 (rot a 16) 1 = by4 a 3 ∧ by4 (rot a 16) 0 = by4 a 2 := by
  refine ⟨?_, ?_, ?_, ?_⟩ <;>
  · apply BitVec.eq_of_getLsbD_eq
    intro j hj
    have hy : j = 0 ∨ j = 1 ∨ j = 2 ∨ j = 3 ∨ j = 4 ∨ j = 5 ∨ j = 6 ∨ j = 7 := by omega
    rcases hy with rfl | rfl | rfl | rfl | rfl | rfl | rfl | rfl <;> simp [by4, rot]
theorem by4_rot24 (a : BitVec 32) : by4 (rot a 24) 3 = by4 a 0 ∧ by4 (rot a 24) 2 = by4 a 3 ∧ by4 (rot a 24) 1 = by4 a 2 ∧ by4 (rot a 24) 0 = by4 a 1 := by
  refine ⟨?_, ?_, ?_, ?_⟩ <;>
  · apply BitVec.eq_of_getLsbD_eq
    intro j hj
    have hy : j = 0 ∨ j = 1 ∨ j = 2 ∨ j = 3 ∨ j = 4 ∨ j = 5 ∨ j = 6 ∨ j = 7 := by omega
    rcases hy with rfl | rfl | rfl | rfl | rfl | rfl | rfl | rfl <;> simp [by4, rot]
theorem by4_trunc (w : BitVec 64) {k : Nat} (hk : k < 4) : by4 (w.setWidth 32) k = ln w k := by
  apply BitVec.eq_of_getLsbD_eq
  intro j hj
  have : 8 * k + j < 32 := by omega
  simp [by4, ln, hj, this]
theorem ln_widen (w : BitVec 32) {k : Nat} (hk : k < 4) : ln (w.setWidth 64) k = by4 w k := by
  apply BitVec.eq_of_getLsbD_eq
  intro j hj
  have : 8 * k + j < 64 := by omega
  simp [by4, ln, hj, this]
theorem by4_high (w : BitVec 64) {k : Nat} (hk : k < 4) : by4 ((w >>> 32).setWidth 32) k = ln w (k + 4) := by
  apply BitVec.eq_of_getLsbD_eq
  intro j hj
  have h1 : 8 * k + j < 32 := by omega
  have h2 : 32 + (8 * k + j) = 8 * (k + 4) + j := by omega
  simp [by4, ln, hj, h1, h2]
theorem ln_pairL (a b : BitVec 32) {k : Nat} (hk : k < 4) : ln (pairW a b) k = by4 b k := by
  apply BitVec.eq_of_getLsbD_eq
  intro j hj
  have h1 : 8 * k + j < 32 := by omega
  have h2 : 8 * k + j < 64 := by omega
  simp [by4, ln, hj, pairW, h1, h2]
theorem ln_pairH (a b : BitVec 32) {k : Nat} (hk : k < 4) : ln (pairW a b) (k + 4) = by4 a k := by
  apply BitVec.eq_of_getLsbD_eq
  intro j hj
  have h1 : ¬ 8 * (k + 4) + j < 32 := by omega
  have h2 : 8 * (k + 4) + j < 64 := by omega
  have h3 : 8 * (k + 4) + j - 32 = 8 * k + j := by omega
  have h4 : b.getLsbD (8 * (k + 4) + j) = false := BitVec.getLsbD_of_ge b _ (by omega)
  have h5 : 8 * k + j < 64 := by omega
  simp [by4, ln, hj, pairW, h1, h2, h3, h4]
theorem othH_cv (a b c d e f g h : BitVec 8) : othH (cvB a b c d) (cvB e f g h) = cvB (ot8 a) (ot8 b) (ot8 c) (ot8 d) := by
  unfold othH
  apply by4_ext <;> rw [by4_high _ (by omega), Aes.ln_ot _ (by omega), ln_pairH _ _ (by omega)] <;> simp only [by4_cv]
theorem othL_cv (a b c d e f g h : BitVec 8) : othL (cvB a b c d) (cvB e f g h) = cvB (ot8 e) (ot8 f) (ot8 g) (ot8 h) := by
  unfold othL
  apply by4_ext <;> rw [by4_trunc _ (by omega), Aes.ln_ot _ (by omega), ln_pairL _ _ (by omega)] <;> simp only [by4_cv]
theorem mix_cv (a b c d : BitVec 8) : mixC (cvB a b c d) = cvB (tw8 (a ^^^ b) ^^^ b ^^^ c ^^^ d) (tw8 (b ^^^ c) ^^^ c ^^^ d ^^^ a) (tw8 (c ^^^ d) ^^^ d ^^^ a ^^^ b) (tw8 (d ^^^ a) ^^^ a ^^^ b ^^^ c) := by
  have hx : ∀ k, k < 4 → by4 (mx3 (cvB a b c d)) k = tw8 (by4 (cvB a b c d) k ^^^ by4 (rot (cvB a b c d) 8) k) := by
    intro k hk
    unfold mx3
    rw [by4_trunc _ hk, Aes.ln_tw _ (by omega)]
    unfold mx2
    rw [ln_widen _ hk]
    unfold mx1
    rw [by4_xor]
  unfold mixC mx5 mx4
  apply by4_ext <;> rw [by4_xor, by4_xor, by4_xor, hx _ (by omega)] <;> simp only [by4_cv, by4_rot, by4_rot16, by4_rot24]
theorem by4_msk (k : Nat) (hk : k < 4) (r : Nat) (hr : r < 4) : by4 (msk r) k = if k + r = 3 then 255#8 else 0#8 := by
  have h1 : k = 0 ∨ k = 1 ∨ k = 2 ∨ k = 3 := by omega
  have h2 : r = 0 ∨ r = 1 ∨ r = 2 ∨ r = 3 := by omega
  rcases h1 with rfl | rfl | rfl | rfl <;> rcases h2 with rfl | rfl | rfl | rfl <;> decide
theorem ones8 (x : BitVec 8) : x &&& 255#8 = x := BitVec.and_allOnes
theorem z8or (x : BitVec 8) : 0#8 ||| x = x := by simp
theorem or4 (x y z w : BitVec 32) : (((0#32 ||| (x &&& msk 0)) ||| (y &&& msk 1)) ||| (z &&& msk 2)) ||| (w &&& msk 3) = cvB (by4 x 3) (by4 y 2) (by4 z 1) (by4 w 0) := by
  have h0 : ∀ k, k < 4 → by4 0#32 k = 0#8 := by
    intro k hk
    have h1 : k = 0 ∨ k = 1 ∨ k = 2 ∨ k = 3 := by omega
    rcases h1 with rfl | rfl | rfl | rfl <;> decide
  apply by4_ext <;> rw [by4_or, by4_or, by4_or, by4_or, by4_and, by4_and, by4_and, by4_and, h0 _ (by omega), by4_msk _ (by omega) _ (by omega), by4_msk _ (by omega) _ (by omega), by4_msk _ (by omega) _ (by omega), by4_msk _ (by omega) _ (by omega)] <;> simp [by4_cv, ones8]
theorem sh_cv (a0 a1 a2 a3 b0 b1 b2 b3 c0 c1 c2 c3 d0 d1 d2 d3 : BitVec 8) :
    shW [cvB a0 a1 a2 a3, cvB b0 b1 b2 b3, cvB c0 c1 c2 c3, cvB d0 d1 d2 d3] = [cvB a0 b1 c2 d3, cvB b0 c1 d2 a3, cvB c0 d1 a2 b3, cvB d0 a1 b2 c3] := by
  have : shW [cvB a0 a1 a2 a3, cvB b0 b1 b2 b3, cvB c0 c1 c2 c3, cvB d0 d1 d2 d3] =
    [(((0#32 ||| (cvB a0 a1 a2 a3 &&& msk 0)) ||| (cvB b0 b1 b2 b3 &&& msk 1)) ||| (cvB c0 c1 c2 c3 &&& msk 2)) ||| (cvB d0 d1 d2 d3 &&& msk 3),
     (((0#32 ||| (cvB b0 b1 b2 b3 &&& msk 0)) ||| (cvB c0 c1 c2 c3 &&& msk 1)) ||| (cvB d0 d1 d2 d3 &&& msk 2)) ||| (cvB a0 a1 a2 a3 &&& msk 3),
     (((0#32 ||| (cvB c0 c1 c2 c3 &&& msk 0)) ||| (cvB d0 d1 d2 d3 &&& msk 1)) ||| (cvB a0 a1 a2 a3 &&& msk 2)) ||| (cvB b0 b1 b2 b3 &&& msk 3),
     (((0#32 ||| (cvB d0 d1 d2 d3 &&& msk 0)) ||| (cvB a0 a1 a2 a3 &&& msk 1)) ||| (cvB b0 b1 b2 b3 &&& msk 2)) ||| (cvB c0 c1 c2 c3 &&& msk 3)] := by
    unfold shW
    simp [shS, z4]
  rw [this]
  simp only [or4, by4_cv]
end Go.Proofs.YtnbfedmecmdjlaaDoor
namespace Go.Proofs.YtnbfedmecmdjlaaDoor
open Go Go.RowKit
def cv (a b c d : UInt8) : BitVec 32 := cvB a.toBitVec b.toBitVec c.toBitVec d.toBitVec
/-- Bytes, four by four. -/
def colsW : List UInt8 → List (BitVec 32)
  | a :: b :: c :: d :: r => cv a b c d :: colsW r
  | _ => []
theorem len16 {α : Type} {l : List α} (h : l.length = 16) : ∃ a0 a1 a2 a3 a4 a5 a6 a7 a8 a9 a10 a11 a12 a13 a14 a15, l = [a0, a1, a2, a3, a4, a5, a6, a7, a8, a9, a10, a11, a12, a13, a14, a15] := by
  match l, h with
  | [a0, a1, a2, a3, a4, a5, a6, a7, a8, a9, a10, a11, a12, a13, a14, a15], _ => exact ⟨a0, a1, a2, a3, a4, a5, a6, a7, a8, a9, a10, a11, a12, a13, a14, a15, rfl⟩
theorem colsW_len {l : List UInt8} (h : l.length = 16) : (colsW l).length = 4 := by
  obtain ⟨a0, a1, a2, a3, a4, a5, a6, a7, a8, a9, a10, a11, a12, a13, a14, a15, rfl⟩ := len16 h
  rfl
def bfN (x : BitVec 32) (y : UInt8) : BitVec 32 := x <<< 8 ||| y.toBitVec.setWidth 32
theorem bfN_val (x : BitVec 32) (y : UInt8) : bits .or .u32 (IntKind.u32.wrap (x.toNat * 256)) (y.toNat : Int) = ((bfN x y).toNat : Int) := by
  have : (y.toNat : Int) = ((y.toBitVec.setWidth 32).toNat : Int) := by
    rw [BitVec.toNat_setWidth, Nat.mod_eq_of_lt (by have := y.toBitVec.isLt; omega)]
    rfl
  rw [this, f32_shl x 8 (c := (x.toNat : Int) * 256) rfl, f32_or]
  rfl
theorem bf4 (a b c d : UInt8) : bfN (bfN (bfN (bfN 0#32 a) b) c) d = cv a b c d := by
  unfold bfN cv cvB
  apply BitVec.eq_of_getLsbD_eq
  intro j hj
  have hy := below32 hj
  rcases hy with rfl | rfl | rfl | rfl | rfl | rfl | rfl | rfl | rfl | rfl | rfl | rfl | rfl | rfl | rfl | rfl | rfl | rfl | rfl | rfl | rfl | rfl | rfl | rfl | rfl | rfl | rfl | rfl | rfl | rfl | rfl | rfl <;> (simp only [BitVec.getLsbD_or, BitVec.getLsbD_shiftLeft, BitVec.getLsbD_setWidth, BitVec.getLsbD_append]; simp)
def bfS (l : List UInt8) : Nat → List (BitVec 32)
  | 0 => z4
  | t + 1 => (bfS l t).set (t / 4) (bfN ((bfS l t).getD (t / 4) 0#32) (l.getD t 0))
theorem bfS_len (l : List UInt8) : ∀ t, (bfS l t).length = 4
  | 0 => rfl
  | t + 1 => by rw [bfS, List.length_set, bfS_len l t]
theorem bfS_all {l : List UInt8} (h : l.length = 16) : bfS l 16 = colsW l := by
  obtain ⟨a0, a1, a2, a3, a4, a5, a6, a7, a8, a9, a10, a11, a12, a13, a14, a15, rfl⟩ := len16 h
  simp [bfS, colsW, z4, bf4]
theorem bf_step {l : List UInt8} (h : l.length = 16) (n : Nat) (hn : n < 16) : ∃ (x : BitVec 32) (y : UInt8) (q : Nat), l[n]? = some y ∧ (bfS l n)[q]? = some x ∧ q < 4 ∧ (n : Int).tdiv 4 = (q : Int) ∧ (bfS l n).set q (bfN x y) = bfS l (n + 1) := by
  refine ⟨_, _, n / 4, getD_some (by omega) 0, getD_some (by rw [bfS_len]; omega) 0#32, by omega, ?_, rfl⟩
  rw [Int.tdiv_eq_ediv_of_nonneg (by omega)]
  omega
theorem size8 (w : World) : (sizeOf 5).run Tryd.prog w = .ok 1 w := by
  obtain ⟨i, h, h2⟩ : ∃ i, Tryd.prog.info? 5 = some i ∧ Tryd.prog.cellsOf 5 = 1 := by
    have : (Tryd.prog.info? 5).isSome = true := by kernel_rfl
    obtain ⟨i, hi⟩ := Option.isSome_iff_exists.1 this
    exact ⟨i, hi, by kernel_rfl⟩
  rw [run_sizeOf _ h, h2]
theorem by_index {l : List UInt8} {n : Nat} {y : UInt8} (hc : l[n]? = some y) (hn : n < 16) (w : World) : (Instr.index 87 (.agg (bys l).toArray) (.int .i64 (n : Int))).run Tryd.prog w = .ok (.int .u8 (y.toNat : Int)) w :=
  run_index_cells 87 5 16 .u8 .i64 (bys l) n _ (bys_getV hc) Tryd.underlying87 Tryd.underlying5 (size8 w) hn
theorem info16 {l : List UInt8} (h : l.length = 16) : (Tryd.prog.info? 87).map (·.size) = some (bys l).length := by
  rw [bys_len, h]; kernel_rfl
def z16 : List UInt8 := List.replicate 16 0
set_option maxRecDepth 20000 in
set_option maxHeartbeats 4000000 in
theorem bof_any (l : List UInt8) (w : World) (hl : l.length = 16) :
    Calls Tryd.prog 63 #[.agg (bys l).toArray] w fun e w' => e = .returned (.agg (u32s (colsW l)).toArray) ∧ Kp0 w w' := by
  have HS := Lib.hid (bf_step hl)
  obtain ⟨F, hF⟩ : ∃ F, F = bfS l := ⟨_, rfl⟩
  have HX : Hid ((F 16).length = 4 ∧ F 0 = z4) := Lib.hid (by rw [hF]; exact ⟨bfS_len l 16, rfl⟩)
  rw [show colsW l = F 16 by rw [hF, bfS_all hl]]
  rw [← hF] at HS
  have HL := Lib.hid hl
  clear hF hl
  go_enter Tryd.func63, Tryd.ntmps63
  go_upto_region 2 with (fail)
  have HR := Lib.hid (rows3 w 87 (bys l) 84 (u32s z4) 84 (u32s z4))
  change Code.wp _ _ _ _ (((w.alloc (.cells (bys l).toArray 87)).alloc (.cells (u32s z4).toArray 84)).alloc (.cells (u32s z4).toArray 84))
  generalize (((w.alloc (.cells (bys l).toArray 87)).alloc (.cells (u32s z4).toArray 84)).alloc (.cells (u32s z4).toArray 84)) = w1 at HR
  go_wp2_with (refine wl_load_blk rfl 87 (.tmp 1) rfl (w.heap.size) _ _ rfl (HR.out.blk 0 rfl rfl) _ Tryd.underlying87 rfl (info16 HL.out) ?_)
  go_loopg [7] 16 (fun g i wr => ∃ (n : Nat), i = .int .i64 n ∧ n ≤ 16 ∧ g = 16 - n ∧ Rows' w wr [(87, bys l), (84, u32s z4), (84, u32s (F n))])
  case atStart => exact ⟨0, rfl, by omega, rfl, by rw [HX.out.2]; exact HR.out⟩
  case round =>
    obtain ⟨n, rfl, hn, rfl, hr⟩ := hrel
    have HR1 := Lib.hid hr
    clear hr HR
    by_cases h : n < 16
    · obtain ⟨x, y, q, h1, h2, h3, h4, h5⟩ := HS.out n h
      have hix := by_index h1 h wr
      have hc1 := (HR1.out.blk 2 rfl (g := w.heap.size + 1 + 1) rfl).cellV q (u32s_get h2)
      have hf1 := blk_frozen (HR1.out.blk 2 rfl (g := w.heap.size + 1 + 1) rfl) q
      have hq4 : (q : Int) < 4 := by omega
      have hv := bfN_val x y
      rw [IntKind.wrap_u32'] at hv
      have hwy : IntKind.u32.wrap (y.toNat : Int) = (y.toNat : Int) := by rw [IntKind.wrap_u32']; have := y.toNat_lt; omega
      have H5 := Lib.hid h5
      clear h1 h2 h5
      go_wp2
      go_roundg (16 - (n + 1))
      case measure => omega
      case rel =>
        refine ⟨n + 1, by go_num, by omega, rfl, ?_⟩
        have hs := HR1.out.set 2 rfl q (.int .u32 ((bfN x y).toNat : Int)) (g := w.heap.size + 1 + 1) rfl
        rw [u32s_set, H5.out] at hs
        exact hs
    · obtain rfl : n = 16 := by omega
      obtain ⟨rs, hrs⟩ : ∃ rs, rs = F 16 := ⟨_, rfl⟩
      have HXL : Hid (rs.length = 4) := Lib.hid (by rw [hrs]; exact HX.out.1)
      have HR3 : Hid (Rows' w _ [(87, bys l), (84, u32s z4), (84, u32s rs)]) := Lib.hid (by rw [hrs]; exact HR1.out)
      have HE := Lib.hid hrs
      clear HX HS hrs HR1
      go_wp2_with (first
        | (refine wl_load_blk rfl 84 (.tmp 3) rfl (w.heap.size + 1 + 1) _ _ rfl (HR3.out.blk 2 rfl rfl) _ Tryd.underlying84 rfl (infoBk HXL.out) ?_)
        | (refine wl_store_blk rfl 84 (.tmp 2) (.tmp 23) rfl (w.heap.size + 1) _ _ (u32s rs) rfl rfl (HR3.out.blk 1 rfl rfl) (infoBk HXL.out) (len_of (T := 84) (infoBk (cs := z4) rfl) (infoBk HXL.out)) (kis_ones _ _) ?_
           intro w7 hA7 hK7
           have HA7 := Lib.hid hA7
           have HK7 := Lib.hid hK7
           clear hA7 hK7))
      refine ret_blk 2 84 84 (w.heap.size + 1) (u32s rs) _ rfl rfl HA7.out Tryd.underlying84 rfl (infoBk HXL.out) rfl ?_
      exact ⟨by rw [HE.out], HR3.out.kp.trans HK7.out (fun _ _ h => h) (fun i hi e => by omega)⟩
def byN (x : BitVec 32) (s : Nat) : Int := IntKind.u8.wrap (x.toNat / 2 ^ s)
theorem byN_val (x : BitVec 32) (s : Nat) : byN x s = (((x >>> s).setWidth 8).toNat : Int) := by
  unfold byN
  rw [f_shr x s (by rw [Int.natCast_pow]; rfl), IntKind.wrap_u8', BitVec.toNat_setWidth, Int.natCast_emod]
  rfl
theorem shr_by4 (x : BitVec 32) (k : Nat) (_hk : k < 4) : (x >>> (8 * k)).setWidth 8 = by4 x k := by
  apply BitVec.eq_of_getLsbD_eq
  intro j hj
  simp [by4, hj]
theorem bb_step {l : List UInt8} (h : l.length = 16) (n : Nat) (hn : n < 16) : ∃ (x : BitVec 32) (y : UInt8) (q r s : Nat), (colsW l)[q]? = some x ∧ q < 4 ∧ (n : Int).tdiv 4 = (q : Int) ∧ (n : Int).tmod 4 = (r : Int) ∧ r < 4 ∧ (24 : Int) - 8 * (r : Int) = (s : Int) ∧ ((x.toNat : Int) / 2 ^ s) % 256 = (y.toNat : Int) ∧ (upT n z16 l)[n]? = some 0 ∧ (upT n z16 l).set n y = upT (n + 1) z16 l := by
  have hl : l[n]? = some (l[n]'(by omega)) := List.getElem?_eq_getElem _
  have hu := upT_step (l := z16) (m := l) (n := n) (x := 0) (y := l[n]'(by omega)) (by rw [h]; rfl) (by unfold z16; rw [List.getElem?_replicate]; simp [hn]) hl
  refine ⟨(colsW l).getD (n / 4) 0#32, l[n]'(by omega), n / 4, n % 4, 24 - 8 * (n % 4), getD_some (by rw [colsW_len h]; omega) 0#32, by omega, ?_, ?_, by omega, by omega, ?_, hu.1, hu.2⟩
  · rw [Int.tdiv_eq_ediv_of_nonneg (by omega)]; omega
  · rw [Int.tmod_eq_emod_of_nonneg (by omega)]; omega
  · have e : 24 - 8 * (n % 4) = 8 * (3 - n % 4) := by omega
    have := byN_val ((colsW l).getD (n / 4) 0#32) (24 - 8 * (n % 4))
    unfold byN at this
    rw [IntKind.wrap_u8'] at this
    rw [this, e, shr_by4 _ _ (by omega)]
    obtain ⟨a0, a1, a2, a3, a4, a5, a6, a7, a8, a9, a10, a11, a12, a13, a14, a15, rfl⟩ := len16 h
    have hx : n = 0 ∨ n = 1 ∨ n = 2 ∨ n = 3 ∨ n = 4 ∨ n = 5 ∨ n = 6 ∨ n = 7 ∨ n = 8 ∨ n = 9 ∨ n = 10 ∨ n = 11 ∨ n = 12 ∨ n = 13 ∨ n = 14 ∨ n = 15 := by omega
    rcases hx with rfl | rfl | rfl | rfl | rfl | rfl | rfl | rfl | rfl | rfl | rfl | rfl | rfl | rfl | rfl | rfl <;> simp [colsW, cv, by4_cv]
set_option maxRecDepth 20000 in
set_option maxHeartbeats 4000000 in
theorem bby_any (l : List UInt8) (w : World) (hl : l.length = 16) :
    Calls Tryd.prog 85 #[.agg (u32s (colsW l)).toArray] w fun e w' => e = .returned (.agg (bys l).toArray) ∧ Kp0 w w' := by
  have HS := Lib.hid (bb_step hl)
  obtain ⟨cs, hcs⟩ : ∃ cs, cs = colsW l := ⟨_, rfl⟩
  rw [← hcs] at HS ⊢
  have HL := Lib.hid hl
  clear hcs hl
  go_enter Tryd.func85, Tryd.ntmps85
  go_upto_region 2 with (fail)
  have HR := Lib.hid (rows3 w 84 (u32s cs) 87 (bys z16) 87 (bys z16))
  change Code.wp _ _ _ _ (((w.alloc (.cells (u32s cs).toArray 84)).alloc (.cells (bys z16).toArray 87)).alloc (.cells (bys z16).toArray 87))
  generalize (((w.alloc (.cells (u32s cs).toArray 84)).alloc (.cells (bys z16).toArray 87)).alloc (.cells (bys z16).toArray 87)) = w1 at HR
  go_wp2
  go_loopg [5] 16 (fun g i wr => ∃ (n : Nat), i = .int .i64 n ∧ n ≤ 16 ∧ g = 16 - n ∧ Rows' w wr [(84, u32s cs), (87, bys z16), (87, bys (upT n z16 l))])
  case atStart => exact ⟨0, rfl, by omega, rfl, by rw [upT_zero]; exact HR.out⟩
  case round =>
    obtain ⟨n, rfl, hn, rfl, hr⟩ := hrel
    have HR1 := Lib.hid hr
    clear hr HR
    by_cases h : n < 16
    · obtain ⟨x, y, q, r, s, h1, h2, h3, h4, h5, h6, h7, h8, h9⟩ := HS.out n h
      have hc1 := (HR1.out.blk 0 rfl (g := w.heap.size) rfl).cellV q (u32s_get h1)
      have hc2 := (HR1.out.blk 2 rfl (g := w.heap.size + 1 + 1) rfl).cellV n (bys_getV h8)
      have hf1 := blk_frozen (HR1.out.blk 2 rfl (g := w.heap.size + 1 + 1) rfl) n
      have hq4 : (q : Int) < 4 := by omega
      have hr4 : (r : Int) < 4 := by omega
      have hn16 : (n : Int) < 16 := by omega
      have H9 := Lib.hid h9
      clear h1 h2 h8 h9
      go_wp2
      go_roundg (16 - (n + 1))
      case measure => omega
      case rel =>
        refine ⟨n + 1, by go_num, by omega, rfl, ?_⟩
        have hs := HR1.out.set 2 rfl n (.int .u8 (y.toNat : Int)) (g := w.heap.size + 1 + 1) rfl
        rw [bys_setV, H9.out] at hs
        exact hs
    · obtain rfl : n = 16 := by omega
      rw [upT_all (by decide) (by rw [HL.out]; exact Nat.le_refl _)] at HR1
      clear HS
      go_wp2_with (first
        | (refine wl_load_blk rfl 87 (.tmp 3) rfl (w.heap.size + 1 + 1) _ _ rfl (HR1.out.blk 2 rfl rfl) _ Tryd.underlying87 rfl (info16 HL.out) ?_)
        | (refine wl_store_blk rfl 87 (.tmp 2) (.tmp 21) rfl (w.heap.size + 1) _ _ (bys l) rfl rfl (HR1.out.blk 1 rfl rfl) (info16 HL.out) (len_of (T := 87) (info16 (l := z16) rfl) (info16 HL.out)) (bys_onesV _) ?_
           intro w7 hA7 hK7
           have HA7 := Lib.hid hA7
           have HK7 := Lib.hid hK7
           clear hA7 hK7))
      refine ret_blk 2 87 87 (w.heap.size + 1) (bys l) _ rfl rfl HA7.out Tryd.underlying87 rfl (info16 HL.out) rfl ?_
      exact ⟨rfl, HR1.out.kp.trans HK7.out (fun _ _ h => h) (fun i hi e => by omega)⟩
end Go.Proofs.YtnbfedmecmdjlaaDoor
