/- Package cipher: a block of its bytes, its bytes, the counter and one. -/
import Derived.Test.YtomlednobmaaeaaDoorAesB
namespace Go.Proofs.YtomlednobmaaeaaDoor
open Go Go.RowKit
def cv (a b c d : UInt8) : BitVec 32 := cvB a.toBitVec b.toBitVec c.toBitVec d.toBitVec
/-- Bytes, four by four. -/
def colsW : List UInt8 → List (BitVec 32)
  | a :: b :: c :: d :: r => cv a b c d :: colsW r
  | _ => []
theorem len16 {α : Type} {l : List α} (h : l.length = 16) : ∃ a0 a1 a2 a3 a4 a5 a6 a7 a8 a9 a10 a11 a12 a13 a14 a15, l = [a0, a1, a2, a3, a4, a5, a6, a7, a8, a9, a10, a11, a12, a13, a14, a15] := by
  match l, h with
  | [a0, a1, a2, a3, a4, a5, a6, a7, a8, a9, a10, a11, a12, a13, a14, a15], _ => exact ⟨a0, a1, a2, a3, a4, a5, a6, a7, a8, a9, a10, a11, a12, a13, a14, a15, rfl⟩
theorem colsW_len {l : List UInt8} (h : l.length = 16) : (colsW l).length = 4 := by
  obtain ⟨a0, a1, a2, a3, a4, a5, a6, a7, a8, a9, a10, a11, a12, a13, a14, a15, rfl⟩ := len16 h
  rfl
def bfN (x : BitVec 32) (y : UInt8) : BitVec 32 := x <<< 8 ||| y.toBitVec.setWidth 32
theorem bfN_val (x : BitVec 32) (y : UInt8) : bits .or .u32 (IntKind.u32.wrap (x.toNat * 256)) (y.toNat : Int) = ((bfN x y).toNat : Int) := by
  have : (y.toNat : Int) = ((y.toBitVec.setWidth 32).toNat : Int) := by
    rw [BitVec.toNat_setWidth, Nat.mod_eq_of_lt (by have := y.toBitVec.isLt; omega)]
    rfl
  rw [this, f32_shl x 8 (c := (x.toNat : Int) * 256) rfl, f32_or]
  rfl
theorem bf4 (a b c d : UInt8) : bfN (bfN (bfN (bfN 0#32 a) b) c) d = cv a b c d := by
  unfold bfN cv cvB
  apply BitVec.eq_of_getLsbD_eq
  intro j hj
  have hy := below32 hj
  rcases hy with rfl | rfl | rfl | rfl | rfl | rfl | rfl | rfl | rfl | rfl | rfl | rfl | rfl | rfl | rfl | rfl | rfl | rfl | rfl | rfl | rfl | rfl | rfl | rfl | rfl | rfl | rfl | rfl | rfl | rfl | rfl | rfl <;> (simp only [BitVec.getLsbD_or, BitVec.getLsbD_shiftLeft, BitVec.getLsbD_setWidth, BitVec.getLsbD_append]; simp)
def bfS (l : List UInt8) : Nat → List (BitVec 32)
  | 0 => z4
  | t + 1 => (bfS l t).set (t / 4) (bfN ((bfS l t).getD (t / 4) 0#32) (l.getD t 0))
theorem bfS_len (l : List UInt8) : ∀ t, (bfS l t).length = 4
  | 0 => rfl
  | t + 1 => by rw [bfS, List.length_set, bfS_len l t]
theorem bfS_all {l : List UInt8} (h : l.length = 16) : bfS l 16 = colsW l := by
  obtain ⟨a0, a1, a2, a3, a4, a5, a6, a7, a8, a9, a10, a11, a12, a13, a14, a15, rfl⟩ := len16 h
  simp [bfS, colsW, z4, bf4]
theorem bys_getV {l : List UInt8} {n : Nat} {y : UInt8} (h : l[n]? = some y) : (bys l)[n]? = some (.int .u8 (y.toNat : Int)) := by simp [bys, h]
theorem bys_setV (l : List UInt8) (n : Nat) (y : UInt8) : (bys l).set n (.int .u8 (y.toNat : Int)) = bys (l.set n y) := by simp [bys, List.map_set]
theorem bf_step {l : List UInt8} (h : l.length = 16) (n : Nat) (hn : n < 16) : ∃ (x : BitVec 32) (y : UInt8) (q : Nat), l[n]? = some y ∧ (bfS l n)[q]? = some x ∧ q < 4 ∧ (n : Int).tdiv 4 = (q : Int) ∧ (bfS l n).set q (bfN x y) = bfS l (n + 1) := by
  refine ⟨_, _, n / 4, getD_some (by omega) 0, getD_some (by rw [bfS_len]; omega) 0#32, by omega, ?_, rfl⟩
  rw [Int.tdiv_eq_ediv_of_nonneg (by omega)]
  omega
theorem size8 (w : World) : (sizeOf 5).run Tryd.prog w = .ok 1 w := by
  obtain ⟨i, h, h2⟩ : ∃ i, Tryd.prog.info? 5 = some i ∧ Tryd.prog.cellsOf 5 = 1 := by
    have : (Tryd.prog.info? 5).isSome = true := by kernel_rfl
    obtain ⟨i, hi⟩ := Option.isSome_iff_exists.1 this
    exact ⟨i, hi, by kernel_rfl⟩
  rw [run_sizeOf _ h, h2]
theorem by_index {l : List UInt8} {n : Nat} {y : UInt8} (hc : l[n]? = some y) (hn : n < 16) (w : World) : (Instr.index 23 (.agg (bys l).toArray) (.int .i64 (n : Int))).run Tryd.prog w = .ok (.int .u8 (y.toNat : Int)) w :=
  run_index_cells 23 5 16 .u8 .i64 (bys l) n _ (bys_getV hc) Tryd.underlying23 Tryd.underlying5 (size8 w) hn
theorem info16 {l : List UInt8} (h : l.length = 16) : (Tryd.prog.info? 23).map (·.size) = some (bys l).length := by
  rw [bys_len, h]; kernel_rfl
theorem bys_onesV (l : List UInt8) : Ones (bys l) := fun v hv => bys_one l v hv
def z16 : List UInt8 := List.replicate 16 0
set_option maxRecDepth 20000 in
set_option maxHeartbeats 4000000 in
theorem bof_any (l : List UInt8) (w : World) (hl : l.length = 16) :
    Calls Tryd.prog 16 #[.agg (bys l).toArray] w fun e w' => e = .returned (.agg (u32s (colsW l)).toArray) ∧ Kp0 w w' := by
  have HS := Lib.hid (bf_step hl)
  obtain ⟨F, hF⟩ : ∃ F, F = bfS l := ⟨_, rfl⟩
  have HX : Hid ((F 16).length = 4 ∧ F 0 = z4) := Lib.hid (by rw [hF]; exact ⟨bfS_len l 16, rfl⟩)
  rw [show colsW l = F 16 by rw [hF, bfS_all hl]]
  rw [← hF] at HS
  have HL := Lib.hid hl
  clear hF hl
  go_enter Tryd.func16, Tryd.ntmps16
  go_upto_region 2 with (fail)
  have HR := Lib.hid (rows3 w 23 (bys l) 43 (u32s z4) 43 (u32s z4))
  change Code.wp _ _ _ _ (((w.alloc (.cells (bys l).toArray 23)).alloc (.cells (u32s z4).toArray 43)).alloc (.cells (u32s z4).toArray 43))
  generalize (((w.alloc (.cells (bys l).toArray 23)).alloc (.cells (u32s z4).toArray 43)).alloc (.cells (u32s z4).toArray 43)) = w1 at HR
  go_wp2_with (refine wl_load_blk rfl 23 (.tmp 1) rfl (w.heap.size) _ _ rfl (HR.out.blk 0 rfl rfl) _ Tryd.underlying23 rfl (info16 HL.out) ?_)
  go_loopg [7] 16 (fun g i wr => ∃ (n : Nat), i = .int .i64 n ∧ n ≤ 16 ∧ g = 16 - n ∧ Rows' w wr [(23, bys l), (43, u32s z4), (43, u32s (F n))])
  case atStart => exact ⟨0, rfl, by omega, rfl, by rw [HX.out.2]; exact HR.out⟩
  case round =>
    obtain ⟨n, rfl, hn, rfl, hr⟩ := hrel
    have HR1 := Lib.hid hr
    clear hr HR
    by_cases h : n < 16
    · obtain ⟨x, y, q, h1, h2, h3, h4, h5⟩ := HS.out n h
      have hix := by_index h1 h wr
      have hc1 := (HR1.out.blk 2 rfl (g := w.heap.size + 1 + 1) rfl).cellV q (u32s_get h2)
      have hf1 := blk_frozen (HR1.out.blk 2 rfl (g := w.heap.size + 1 + 1) rfl) q
      have hq4 : (q : Int) < 4 := by omega
      have hv := bfN_val x y
      rw [IntKind.wrap_u32'] at hv
      have hwy : IntKind.u32.wrap (y.toNat : Int) = (y.toNat : Int) := by rw [IntKind.wrap_u32']; have := y.toNat_lt; omega
      have H5 := Lib.hid h5
      clear h1 h2 h5
      go_wp2
      go_roundg (16 - (n + 1))
      case measure => omega
      case rel =>
        refine ⟨n + 1, by go_num, by omega, rfl, ?_⟩
        have hs := HR1.out.set 2 rfl q (.int .u32 ((bfN x y).toNat : Int)) (g := w.heap.size + 1 + 1) rfl
        rw [u32s_set, H5.out] at hs
        exact hs
    · obtain rfl : n = 16 := by omega
      obtain ⟨rs, hrs⟩ : ∃ rs, rs = F 16 := ⟨_, rfl⟩
      have HXL : Hid (rs.length = 4) := Lib.hid (by rw [hrs]; exact HX.out.1)
      have HR3 : Hid (Rows' w _ [(23, bys l), (43, u32s z4), (43, u32s rs)]) := Lib.hid (by rw [hrs]; exact HR1.out)
      have HE := Lib.hid hrs
      clear HX HS hrs HR1
      go_wp2_with (first
        | (refine wl_load_blk rfl 43 (.tmp 3) rfl (w.heap.size + 1 + 1) _ _ rfl (HR3.out.blk 2 rfl rfl) _ Tryd.underlying43 rfl (infoBk HXL.out) ?_)
        | (refine wl_store_blk rfl 43 (.tmp 2) (.tmp 23) rfl (w.heap.size + 1) _ _ (u32s rs) rfl rfl (HR3.out.blk 1 rfl rfl) (infoBk HXL.out) (len_of (T := 43) (infoBk (cs := z4) rfl) (infoBk HXL.out)) (kis_ones _ _) ?_
           intro w7 hA7 hK7
           have HA7 := Lib.hid hA7
           have HK7 := Lib.hid hK7
           clear hA7 hK7))
      refine ret_blk 2 43 43 (w.heap.size + 1) (u32s rs) _ rfl rfl HA7.out Tryd.underlying43 rfl (infoBk HXL.out) rfl ?_
      exact ⟨by rw [HE.out], HR3.out.kp.trans HK7.out (fun _ _ h => h) (fun i hi e => by omega)⟩
def byN (x : BitVec 32) (s : Nat) : Int := IntKind.u8.wrap (x.toNat / 2 ^ s)
theorem byN_val (x : BitVec 32) (s : Nat) : byN x s = (((x >>> s).setWidth 8).toNat : Int) := by
  unfold byN
  rw [f_shr x s (by rw [Int.natCast_pow]; rfl), IntKind.wrap_u8', BitVec.toNat_setWidth, Int.natCast_emod]
  rfl
theorem shr_by4 (x : BitVec 32) (k : Nat) (hk : k < 4) : (x >>> (8 * k)).setWidth 8 = by4 x k := by
  apply BitVec.eq_of_getLsbD_eq
  intro j hj
  simp [by4, hj]
theorem bb_step {l : List UInt8} (h : l.length = 16) (n : Nat) (hn : n < 16) : ∃ (x : BitVec 32) (y : UInt8) (q r s : Nat), (colsW l)[q]? = some x ∧ q < 4 ∧ (n : Int).tdiv 4 = (q : Int) ∧ (n : Int).tmod 4 = (r : Int) ∧ r < 4 ∧ (24 : Int) - 8 * (r : Int) = (s : Int) ∧ ((x.toNat : Int) / 2 ^ s) % 256 = (y.toNat : Int) ∧ (upT n z16 l)[n]? = some 0 ∧ (upT n z16 l).set n y = upT (n + 1) z16 l := by
  have hl : l[n]? = some (l[n]'(by omega)) := List.getElem?_eq_getElem _
  have hu := upT_step (l := z16) (m := l) (n := n) (x := 0) (y := l[n]'(by omega)) (by rw [h]; rfl) (by unfold z16; rw [List.getElem?_replicate]; simp [hn]) hl
  refine ⟨(colsW l).getD (n / 4) 0#32, l[n]'(by omega), n / 4, n % 4, 24 - 8 * (n % 4), getD_some (by rw [colsW_len h]; omega) 0#32, by omega, ?_, ?_, by omega, by omega, ?_, hu.1, hu.2⟩
  · rw [Int.tdiv_eq_ediv_of_nonneg (by omega)]; omega
  · rw [Int.tmod_eq_emod_of_nonneg (by omega)]; omega
  · have e : 24 - 8 * (n % 4) = 8 * (3 - n % 4) := by omega
    have := byN_val ((colsW l).getD (n / 4) 0#32) (24 - 8 * (n % 4))
    unfold byN at this
    rw [IntKind.wrap_u8'] at this
    rw [this, e, shr_by4 _ _ (by omega)]
    obtain ⟨a0, a1, a2, a3, a4, a5, a6, a7, a8, a9, a10, a11, a12, a13, a14, a15, rfl⟩ := len16 h
    have hx : n = 0 ∨ n = 1 ∨ n = 2 ∨ n = 3 ∨ n = 4 ∨ n = 5 ∨ n = 6 ∨ n = 7 ∨ n = 8 ∨ n = 9 ∨ n = 10 ∨ n = 11 ∨ n = 12 ∨ n = 13 ∨ n = 14 ∨ n = 15 := by omega
    rcases hx with rfl | rfl | rfl | rfl | rfl | rfl | rfl | rfl | rfl | rfl | rfl | rfl | rfl | rfl | rfl | rfl <;> simp [colsW, cv, by4_cv]
set_option maxRecDepth 20000 in
set_option maxHeartbeats 4000000 in
theorem bby_any (l : List UInt8) (w : World) (hl : l.length = 16) :
    Calls Tryd.prog 18 #[.agg (u32s (colsW l)).toArray] w fun e w' => e = .returned (.agg (bys l).toArray) ∧ Kp0 w w' := by
  have HS := Lib.hid (bb_step hl)
  obtain ⟨cs, hcs⟩ : ∃ cs, cs = colsW l := ⟨_, rfl⟩
  rw [← hcs] at HS ⊢
  have HL := Lib.hid hl
  clear hcs hl
  go_enter Tryd.func18, Tryd.ntmps18
  go_upto_region 2 with (fail)
  have HR := Lib.hid (rows3 w 43 (u32s cs) 23 (bys z16) 23 (bys z16))
  change Code.wp _ _ _ _ (((w.alloc (.cells (u32s cs).toArray 43)).alloc (.cells (bys z16).toArray 23)).alloc (.cells (bys z16).toArray 23))
  generalize (((w.alloc (.cells (u32s cs).toArray 43)).alloc (.cells (bys z16).toArray 23)).alloc (.cells (bys z16).toArray 23)) = w1 at HR
  go_wp2
  go_loopg [5] 16 (fun g i wr => ∃ (n : Nat), i = .int .i64 n ∧ n ≤ 16 ∧ g = 16 - n ∧ Rows' w wr [(43, u32s cs), (23, bys z16), (23, bys (upT n z16 l))])
  case atStart => exact ⟨0, rfl, by omega, rfl, by rw [upT_zero]; exact HR.out⟩
  case round =>
    obtain ⟨n, rfl, hn, rfl, hr⟩ := hrel
    have HR1 := Lib.hid hr
    clear hr HR
    by_cases h : n < 16
    · obtain ⟨x, y, q, r, s, h1, h2, h3, h4, h5, h6, h7, h8, h9⟩ := HS.out n h
      have hc1 := (HR1.out.blk 0 rfl (g := w.heap.size) rfl).cellV q (u32s_get h1)
      have hc2 := (HR1.out.blk 2 rfl (g := w.heap.size + 1 + 1) rfl).cellV n (bys_getV h8)
      have hf1 := blk_frozen (HR1.out.blk 2 rfl (g := w.heap.size + 1 + 1) rfl) n
      have hq4 : (q : Int) < 4 := by omega
      have hr4 : (r : Int) < 4 := by omega
      have hn16 : (n : Int) < 16 := by omega
      have H9 := Lib.hid h9
      clear h1 h2 h8 h9
      go_wp2
      go_roundg (16 - (n + 1))
      case measure => omega
      case rel =>
        refine ⟨n + 1, by go_num, by omega, rfl, ?_⟩
        have hs := HR1.out.set 2 rfl n (.int .u8 (y.toNat : Int)) (g := w.heap.size + 1 + 1) rfl
        rw [bys_setV, H9.out] at hs
        exact hs
    · obtain rfl : n = 16 := by omega
      rw [upT_all (by decide) (by rw [HL.out]; exact Nat.le_refl _)] at HR1
      clear HS
      go_wp2_with (first
        | (refine wl_load_blk rfl 23 (.tmp 3) rfl (w.heap.size + 1 + 1) _ _ rfl (HR1.out.blk 2 rfl rfl) _ Tryd.underlying23 rfl (info16 HL.out) ?_)
        | (refine wl_store_blk rfl 23 (.tmp 2) (.tmp 21) rfl (w.heap.size + 1) _ _ (bys l) rfl rfl (HR1.out.blk 1 rfl rfl) (info16 HL.out) (len_of (T := 23) (info16 (l := z16) rfl) (info16 HL.out)) (bys_onesV _) ?_
           intro w7 hA7 hK7
           have HA7 := Lib.hid hA7
           have HK7 := Lib.hid hK7
           clear hA7 hK7))
      refine ret_blk 2 23 23 (w.heap.size + 1) (bys l) _ rfl rfl HA7.out Tryd.underlying23 rfl (info16 HL.out) rfl ?_
      exact ⟨rfl, HR1.out.kp.trans HK7.out (fun _ _ h => h) (fun i hi e => by omega)⟩
end Go.Proofs.YtomlednobmaaeaaDoor
