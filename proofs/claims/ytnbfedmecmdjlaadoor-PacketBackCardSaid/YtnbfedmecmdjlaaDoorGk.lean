/- Package cipher: streams: Block. Package cipher: streams: the next byte. -/
import Derived.Test.YtnbfedmecmdjlaaDoorGj
namespace Go.Proofs.YtnbfedmecmdjlaaDoor
open Go Go.RowKit
theorem lenV44 {l : List Value} (h : l.length = 44) : ∃ x0 x1 x2 x3 x4 x5 x6 x7 x8 x9 x10 x11 x12 x13 x14 x15 x16 x17 x18 x19 x20 x21 x22 x23 x24 x25 x26 x27 x28 x29 x30 x31 x32 x33 x34 x35 x36 x37 x38 x39 x40 x41 x42 x43, l = x0 :: x1 :: x2 :: x3 :: x4 :: x5 :: x6 :: x7 :: x8 :: x9 :: x10 :: x11 :: x12 :: x13 :: x14 :: x15 :: x16 :: x17 :: x18 :: x19 :: x20 :: x21 :: x22 :: x23 :: x24 :: x25 :: x26 :: x27 :: x28 :: x29 :: x30 :: x31 :: x32 :: x33 :: x34 :: x35 :: x36 :: x37 :: x38 :: x39 :: x40 :: x41 :: x42 :: x43 :: [] := by
  match l, h with
  | x0 :: x1 :: x2 :: x3 :: x4 :: x5 :: x6 :: x7 :: x8 :: x9 :: x10 :: x11 :: x12 :: x13 :: x14 :: x15 :: x16 :: x17 :: x18 :: x19 :: x20 :: x21 :: x22 :: x23 :: x24 :: x25 :: x26 :: x27 :: x28 :: x29 :: x30 :: x31 :: x32 :: x33 :: x34 :: x35 :: x36 :: x37 :: x38 :: x39 :: x40 :: x41 :: x42 :: x43 :: [], _ => exact ⟨x0, x1, x2, x3, x4, x5, x6, x7, x8, x9, x10, x11, x12, x13, x14, x15, x16, x17, x18, x19, x20, x21, x22, x23, x24, x25, x26, x27, x28, x29, x30, x31, x32, x33, x34, x35, x36, x37, x38, x39, x40, x41, x42, x43, rfl⟩
theorem lenV16 {l : List Value} (h : l.length = 16) : ∃ y0 y1 y2 y3 y4 y5 y6 y7 y8 y9 y10 y11 y12 y13 y14 y15, l = y0 :: y1 :: y2 :: y3 :: y4 :: y5 :: y6 :: y7 :: y8 :: y9 :: y10 :: y11 :: y12 :: y13 :: y14 :: y15 :: [] := by
  match l, h with
  | y0 :: y1 :: y2 :: y3 :: y4 :: y5 :: y6 :: y7 :: y8 :: y9 :: y10 :: y11 :: y12 :: y13 :: y14 :: y15 :: [], _ => exact ⟨y0, y1, y2, y3, y4, y5, y6, y7, y8, y9, y10, y11, y12, y13, y14, y15, rfl⟩
def stm (ks : List (BitVec 32)) (cnt last : List UInt8) (left : Int) : List Value := u32s ks ++ (bys cnt ++ (bys last ++ [.int .i64 left]))
theorem build_st (cs ds : List Value) (h1 : cs.length = 44) (h2 : ds.length = 16) (w : World) : (Instr.build 89 #[(0, .agg cs.toArray), (1, .agg ds.toArray)]).run Tryd.prog w = .ok (.agg (cs ++ (ds ++ (bys z16 ++ [Value.int .i64 0]))).toArray) w := by
  obtain ⟨x0, x1, x2, x3, x4, x5, x6, x7, x8, x9, x10, x11, x12, x13, x14, x15, x16, x17, x18, x19, x20, x21, x22, x23, x24, x25, x26, x27, x28, x29, x30, x31, x32, x33, x34, x35, x36, x37, x38, x39, x40, x41, x42, x43, rfl⟩ := lenV44 h1
  obtain ⟨y0, y1, y2, y3, y4, y5, y6, y7, y8, y9, y10, y11, y12, y13, y14, y15, rfl⟩ := lenV16 h2
  kernel_rfl
theorem run_build_st (w : World) (op : Oper) (a : Act) (t u : Tmp) (ho : op.op = .build 89 #[(0, .tmp t), (1, .tmp u)]) (cs ds : List Value) (h1 : cs.length = 44) (h2 : ds.length = 16) (hx : a.eval (.tmp t) = .agg cs.toArray) (hz : a.eval (.tmp u) = .agg ds.toArray) :
    (execOp a.eval op).run Tryd.prog w = .ok (.value (.agg (cs ++ (ds ++ (bys z16 ++ [Value.int .i64 0]))).toArray)) w := by
  have e : Array.map (fun x : Nat × Operand => (x.1, a.eval x.2)) #[(0, .tmp t), (1, .tmp u)] = #[(0, .agg cs.toArray), (1, .agg ds.toArray)] := by
    simp [hx, hz]
  have hb := build_st cs ds h1 h2 w
  unfold execOp
  simp only [ho]
  rw [e]
  simp [hb]
/-- A stream's cells. -/
def Stm (w : World) (g : Nat) (ks : List (BitVec 32)) (cnt last : List UInt8) (left : Int) : Prop := Blk w g 89 (stm ks cnt last left) ∧ ks.length = 44 ∧ cnt.length = 16 ∧ last.length = 16
section
variable {w wx : World} {g : Nat} {ks : List (BitVec 32)} {cnt last : List UInt8} {left : Int}
theorem Stm.kp0 (h : Stm w g ks cnt last left) (hk : Kp0 w wx) : Stm wx g ks cnt last left := ⟨h.1.kp0 hk, h.2⟩
theorem Stm.lt (h : Stm w g ks cnt last left) : g < w.heap.size := h.1.lt
theorem Stm.keysR (h : Stm w g ks cnt last left) : w.rangeAt g 0 (u32s ks) := by
  refine h.1.part 0 ?_
  simp [stm]
theorem Stm.cntR (h : Stm w g ks cnt last left) : w.rangeAt g 44 (bys cnt) := by
  refine h.1.part 44 ?_
  have e : (u32s ks).length = 44 := by rw [u32s_len, h.2.1]
  rw [stm, List.drop_append_of_le_length (by omega), List.drop_eq_nil_of_le (by omega)]
  simp
theorem Stm.lastR (h : Stm w g ks cnt last left) : w.rangeAt g 60 (bys last) := by
  refine h.1.part 60 ?_
  have e : (u32s ks).length = 44 := by rw [u32s_len, h.2.1]
  have e2 : (bys cnt).length = 16 := by rw [bys_len, h.2.2.1]
  rw [stm, List.drop_append, List.drop_append, List.drop_eq_nil_of_le (by omega), List.drop_eq_nil_of_le (by omega), e, e2]
  simp
theorem Stm.leftC (h : Stm w g ks cnt last left) : w.cell? ⟨g, 76, none⟩ = some (.int .i64 left) := by
  refine h.1.cellV 76 ?_
  have e : (u32s ks).length = 44 := by rw [u32s_len, h.2.1]
  have e2 : (bys cnt).length = 16 := by rw [bys_len, h.2.2.1]
  have e3 : (bys last).length = 16 := by rw [bys_len, h.2.2.2]
  rw [stm, List.getElem?_append_right (by omega), List.getElem?_append_right (by omega), List.getElem?_append_right (by omega), e, e2, e3]
  rfl
theorem Stm.frozen (h : Stm w g ks cnt last left) (i : Nat) : w.frozen? ⟨g, i, none⟩ = false := blk_frozen h.1 i
end
/-- A column's bytes. -/
def unc : List (BitVec 32) → List UInt8
  | [] => []
  | c :: r => ⟨by4 c 3⟩ :: ⟨by4 c 2⟩ :: ⟨by4 c 1⟩ :: ⟨by4 c 0⟩ :: unc r
theorem unc_cols : ∀ cs : List (BitVec 32), colsW (unc cs) = cs
  | [] => rfl
  | c :: r => by
    rw [unc, colsW, unc_cols r]
    congr 1
    exact (cv_surj c).symm
theorem unc_len : ∀ cs : List (BitVec 32), (unc cs).length = 4 * cs.length
  | [] => rfl
  | c :: r => by simp [unc, unc_len r]; omega
/-- A block, enciphered. -/
def aesK (ks : List (BitVec 32)) (b : List UInt8) : List UInt8 := unc (udW (colsW b) ks)
theorem aesK_len {ks : List (BitVec 32)} (hk : ks.length = 44) (b : List UInt8) : (aesK ks b).length = 16 := by
  rw [aesK, unc_len, udW_len hk]
theorem aesK_cols (ks : List (BitVec 32)) (b : List UInt8) : u32s (udW (colsW b) ks) = u32s (colsW (aesK ks b)) := by rw [aesK, unc_cols]
theorem info11' {ks : List (BitVec 32)} (h : ks.length = 44) : (Tryd.prog.info? 85).map (·.size) = some (u32s ks).length := info11 h
attribute [local irreducible] udW aesK colsW unc
set_option maxRecDepth 20000 in
set_option maxHeartbeats 4000000 in
theorem blk_any (g : Nat) (ks : List (BitVec 32)) (cnt last : List UInt8) (left : Int) (b : List UInt8) (w : World) (hs : Stm w g ks cnt last left) (hb : b.length = 16) (hq : Sqr w) :
    Calls Tryd.prog 72 #[.pointer (some ⟨g, 0, none⟩), .agg (bys b).toArray] w fun e w' => e = .returned (.agg (bys (aesK ks b)).toArray) ∧ Kp0 w w' := by
  have HS := Lib.hid hs
  have HB := Lib.hid hb
  have HQ := Lib.hid hq
  have HUC := Lib.hid (aesK_cols ks b)
  have HUL := Lib.hid (aesK_len hs.2.1 b)
  obtain ⟨rs, hrs⟩ : ∃ rs, rs = aesK ks b := ⟨_, rfl⟩
  rw [← hrs] at HUC HUL ⊢
  clear hs hb hq hrs
  go_enter Tryd.func72, Tryd.ntmps72
  go_upto_region 1 with (fail)
  have HR := Lib.hid (rows2 w 87 (bys b) 87 (bys z16))
  change Code.wp _ _ _ _ ((w.alloc (.cells (bys b).toArray 87)).alloc (.cells (bys z16).toArray 87))
  generalize ((w.alloc (.cells (bys b).toArray 87)).alloc (.cells (bys z16).toArray 87)) = w1 at HR
  have HS1 := Lib.hid (HS.out.kp0 HR.out.kp)
  go_upto_region 3 with (fail)
  have HK0 : Hid (Kp0 w1.drew w1.drew) := Lib.hid (Kp.refl _ _)
  refine wp_region_px 9 [8] (fun w' : World => Kp0 w1.drew w') (.quiet 0 (.quiet 2 (.quiet 3 (.quiet 4 (.quiet 5 (.eff 1 (.eff 6 (.eff 7 (.wall 8 .done))))))))) (by kernel_rfl) (by kernel_rfl) (by kernel_rfl) (by kernel_rfl) (fun _ d _ _ _ h => by cases d <;> exact h) HK0.out ?_
  refine px_quiet (v := .agg (bys b).toArray) rfl (by rfl) (fun wq hwq => run_load_blk 87 (.tmp 3) rfl (w.heap.size) _ (bys b) rfl (HR.out.kp0 ((Kp.refl _ _).drew.tr hwq) |>.blk 0 rfl rfl) _ Tryd.underlying87 rfl (info16 HB.out)) rfl ?_
  try simp only [List.setIfInBounds_toArray, List.set_cons_zero, List.set_cons_succ]
  refine px_quiet (v := ?_) rfl (by rfl) (fun wq hwq => ?_) rfl ?_; rotate_left 1; (focus (go_simp; try (with_reducible rfl); done)); try simp only [List.setIfInBounds_toArray, List.set_cons_zero, List.set_cons_succ]
  refine px_quiet (v := ?_) rfl (by rfl) (fun wq hwq => ?_) rfl ?_; rotate_left 1; (focus (go_simp; try (with_reducible rfl); done)); try simp only [List.setIfInBounds_toArray, List.set_cons_zero, List.set_cons_succ]
  refine px_quiet (v := ?_) rfl (by rfl) (fun wq hwq => ?_) rfl ?_; rotate_left 1; (focus (go_simp; try (with_reducible rfl); done)); try simp only [List.setIfInBounds_toArray, List.set_cons_zero, List.set_cons_succ]
  refine px_quiet (v := .agg (u32s ks).toArray) rfl (by rfl) (fun wq hwq => run_load_mid 85 (.tmp 12) rfl (g) (0) (u32s ks) rfl ((HS1.out.kp0 ((Kp.refl _ _).drew.tr hwq)).keysR) _ Tryd.underlying85 rfl (info11 HS1.out.2.1)) rfl ?_
  try simp only [List.setIfInBounds_toArray, List.set_cons_zero, List.set_cons_succ]
  refine px_eff rfl (by rfl) (fun K hK => ?_)
  go_simp
  refine (bof_any b _ HB.out).mono ?_
  rintro e zw1 ⟨rfl, hk⟩
  simp only []
  have HK1 : Hid (Kp0 w1.drew zw1) := Lib.hid (HK0.out.tr hk)
  clear hk
  refine hK (fun w' : World => Kp0 w1.drew w') _ _ (fun x h => h) HK1.out ?_
  clear hK K
  refine px_eff rfl (by rfl) (fun K hK => ?_)
  go_simp
  refine (und_any (colsW b) ks _ (colsW_len HB.out) HS1.out.2.1 ((HQ.out.kp0 HR.out.kp).kp0 ((Kp.refl _ _).drew.tr HK1.out))).mono ?_
  rintro e zw2 ⟨rfl, hk⟩
  simp only []
  have HK2 : Hid (Kp0 w1.drew zw2) := Lib.hid (HK1.out.tr hk)
  clear hk
  refine hK (fun w' : World => Kp0 w1.drew w') _ _ (fun x h => h) HK2.out ?_
  clear hK K
  rw [HUC.out]
  refine px_eff rfl (by rfl) (fun K hK => ?_)
  go_simp
  refine (bby_any rs _ HUL.out).mono ?_
  rintro e zw3 ⟨rfl, hk⟩
  simp only []
  have HK3 : Hid (Kp0 w1.drew zw3) := Lib.hid (HK2.out.tr hk)
  clear hk
  refine hK (fun w' : World => Kp0 w1.drew w') _ _ (fun x h => h) HK3.out ?_
  clear hK K
  refine px_wall rfl (by rfl) (fun K hK => ?_)
  refine wp_store_blk 87 (.tmp 4) (.tmp 15) rfl (w.heap.size + 1) _ (bys z16) (bys rs) rfl rfl ((HR.out.kp0 ((Kp.refl _ _).drew.tr HK3.out)).blk 1 rfl rfl) (info16 HUL.out) (len_of (T := 87) (info16 (l := z16) rfl) (info16 HUL.out)) (bys_onesV _) ?_
  intro w8 hA8 hK8
  have HA8 := Lib.hid hA8
  have HK8 : Hid (Kp0 w w8) := Lib.hid ((HR.out.kp0 ((Kp.refl _ _).drew.tr HK3.out)).kp.trans hK8 (fun _ _ h => h) (fun i hi e => by omega))
  clear hA8 hK8
  refine hK (fun _ => True) _ _ trivial ?_
  clear hK K
  refine px_done ?_
  go_wp2
  refine ret_blk 4 87 87 (w.heap.size + 1) (bys rs) _ rfl rfl HA8.out Tryd.underlying87 rfl (info16 HUL.out) rfl ?_
  exact ⟨rfl, HK8.out⟩
end Go.Proofs.YtnbfedmecmdjlaaDoor
namespace Go.Proofs.YtnbfedmecmdjlaaDoor
open Go Go.RowKit
section
variable {w wx : World} {g : Nat} {ks : List (BitVec 32)} {cnt last : List UInt8} {left : Int}
theorem stm_lens (h : Stm w g ks cnt last left) : (u32s ks).length = 44 ∧ (bys cnt).length = 16 ∧ (bys last).length = 16 := ⟨by rw [u32s_len, h.2.1], by rw [bys_len, h.2.2.1], by rw [bys_len, h.2.2.2]⟩
theorem stm_len (h : Stm w g ks cnt last left) : (stm ks cnt last left).length = 77 := by
  obtain ⟨e1, e2, e3⟩ := stm_lens h
  simp [stm, e1, e2, e3]
theorem Stm.setLast (h : Stm w g ks cnt last left) {new : List UInt8} (hn : new.length = 16) (hA : Blk wx g 89 ((stm ks cnt last left).take 60 ++ bys new ++ (stm ks cnt last left).drop (60 + (bys new).length))) : Stm wx g ks cnt new left := by
  obtain ⟨e1, e2, e3⟩ := stm_lens h
  refine ⟨?_, h.2.1, h.2.2.1, hn⟩
  have e4 : (bys new).length = 16 := by rw [bys_len, hn]
  have : (stm ks cnt last left).take 60 ++ bys new ++ (stm ks cnt last left).drop (60 + (bys new).length) = stm ks cnt new left := by
    rw [e4]
    simp [stm, List.take_append, List.drop_append, e1, e2, e3, List.take_of_length_le, List.drop_eq_nil_of_le]
  rw [this] at hA
  exact hA
theorem Stm.setCnt (h : Stm w g ks cnt last left) {new : List UInt8} (hn : new.length = 16) (hA : Blk wx g 89 ((stm ks cnt last left).take 44 ++ bys new ++ (stm ks cnt last left).drop (44 + (bys new).length))) : Stm wx g ks new last left := by
  obtain ⟨e1, e2, e3⟩ := stm_lens h
  refine ⟨?_, h.2.1, hn, h.2.2.2⟩
  have e4 : (bys new).length = 16 := by rw [bys_len, hn]
  have : (stm ks cnt last left).take 44 ++ bys new ++ (stm ks cnt last left).drop (44 + (bys new).length) = stm ks new last left := by
    rw [e4]
    simp [stm, List.drop_append, e1, e2, List.drop_eq_nil_of_le]
  rw [this] at hA
  exact hA
theorem Stm.setLeft (h : Stm w g ks cnt last left) (n : Int) : Stm (w.setCell ⟨g, 76, none⟩ (.int .i64 n)) g ks cnt last n := by
  obtain ⟨e1, e2, e3⟩ := stm_lens h
  refine ⟨?_, h.2⟩
  have := h.1.set' 76 (.int .i64 n)
  have e : (stm ks cnt last left).set 76 (.int .i64 n) = stm ks cnt last n := by
    rw [stm, List.set_append_right _ _ (by omega), List.set_append_right _ _ (by omega), List.set_append_right _ _ (by omega), e1, e2, e3]
    rfl
  rw [e] at this
  exact this
theorem Stm.drew' (h : Stm w g ks cnt last left) : Stm w.drew g ks cnt last left := h
theorem Stm.lastC (h : Stm w g ks cnt last left) (k : Nat) {x : UInt8} (hx : last[k]? = some x) : w.cell? ⟨g, 60 + k, none⟩ = some (.int .u8 (x.toNat : Int)) := h.lastR k _ (bys_getV hx)
end
theorem infoI (_w : World) : (Tryd.prog.info? 3).map (·.size) = some 1 := by kernel_rfl
def nxB (ks : List (BitVec 32)) (cnt last : List UInt8) (left : Nat) : UInt8 := if left = 0 then (aesK ks cnt).getD 0 0 else last.getD (16 - left) 0
def nxC (cnt : List UInt8) (left : Nat) : List UInt8 := if left = 0 then incB cnt else cnt
def nxL (ks : List (BitVec 32)) (cnt last : List UInt8) (left : Nat) : List UInt8 := if left = 0 then aesK ks cnt else last
def nxN (left : Nat) : Nat := if left = 0 then 15 else left - 1
attribute [local irreducible] aesK incB
set_option maxRecDepth 20000 in
set_option maxHeartbeats 4000000 in
theorem next_any (g : Nat) (ks : List (BitVec 32)) (cnt last : List UInt8) (left : Nat) (w : World) (hs : Stm w g ks cnt last left) (hl : left ≤ 16) (hq : Sqr w) (_hg : g ≠ 2) :
    Calls Tryd.prog 56 #[.pointer (some ⟨g, 0, none⟩)] w fun e w' => e = .returned (.int .u8 ((nxB ks cnt last left).toNat : Int)) ∧ Stm w' g ks (nxC cnt left) (nxL ks cnt last left) (nxN left : Nat) ∧ Kp (fun b => b = g) w w' := by
  have HS := Lib.hid hs
  have HQ := Lib.hid hq
  have hL := hs.leftC
  by_cases h0 : left = 0
  · have HX : Hid (∃ x, (aesK ks cnt)[0]? = some x ∧ nxB ks cnt last left = x ∧ nxC cnt left = incB cnt ∧ nxL ks cnt last left = aesK ks cnt ∧ ((nxN left : Nat) : Int) = ((16 : Nat) : Int) - 1) := Lib.hid (by
      refine ⟨_, getD_some (by rw [aesK_len hs.2.1]; omega) 0, ?_⟩
      unfold nxB nxC nxL nxN
      simp only [if_pos h0]
      exact ⟨trivial, trivial, trivial, rfl⟩)
    have HBL := Lib.hid (aesK_len hs.2.1 cnt)
    have HIL : Hid ((incB cnt).length = 16) := Lib.hid (by rw [incB_len]; exact hs.2.2.1)
    obtain ⟨x, HKX', e1, e2, e3, e4⟩ := HX.out
    rw [e1, e2, e3, e4]
    have HKX := Lib.hid HKX'
    obtain ⟨blk, hblk⟩ : ∃ b, b = aesK ks cnt := ⟨_, rfl⟩
    obtain ⟨ci, hci⟩ : ∃ b, b = incB cnt := ⟨_, rfl⟩
    have HE1 := Lib.hid hblk
    have HE2 := Lib.hid hci
    rw [← hblk] at HKX HBL ⊢
    rw [← hci] at HIL ⊢
    subst h0
    clear HX hs hq hl HKX' e1 e2 e3 e4 hblk hci
    go_enter Tryd.func56, Tryd.ntmps56
    go_upto_region 3 with (first
      | (refine wpList_load_mid rfl 87 (.tmp 14) rfl g 44 rfl (bys cnt) _ HS.out.cntR Tryd.underlying87 rfl (info16 HS.out.2.2.1) ?_)
      | (go_at_call 72; refine (blk_any g ks cnt last _ cnt _ HS.out HS.out.2.2.1 HQ.out).mono ?_; rintro e w1 ⟨rfl, hk⟩; rw [← HE1.out]; have HK1 := Lib.hid hk; have HS1 := Lib.hid (HS.out.kp0 hk); clear hk)
      | (refine wl_store_part rfl 87 (.tmp 18) (.tmp 16) rfl g 60 _ _ (bys blk) rfl rfl HS1.out.1 (info16 HBL.out) (by rw [stm_len HS1.out, bys_len, HBL.out]; decide) (bys_onesV _) ?_
         intro w7 hA7 hK7
         have HS2 := Lib.hid (HS1.out.setLast HBL.out hA7)
         have HK2 : Hid (Kp (fun b => b = g) w w7) := Lib.hid ((HK1.out.nil (fun b => b = g)).tr hK7)
         have hL2 := HS2.out.leftC
         have hF2 := HS2.out.frozen 76
         clear hA7 hK7))
    have HS3 := Lib.hid (HS2.out.setLeft 16)
    have HK3 : Hid (Kp (fun b => b = g) w (w7.setCell ⟨g, 76, none⟩ (.int .i64 16))) := Lib.hid (HK2.out.setCell (p := ⟨g, 76, none⟩) (fun _ => rfl) _)
    clear hL2 hF2 HS2 HS1 hL
    generalize (w7.setCell ⟨g, 76, none⟩ (.int .i64 16)) = w8 at HS3 HK3 ⊢
    go_upto_region 4 with (first
      | (refine wpList_load_mid rfl 87 (.tmp 24) rfl g 44 rfl (bys cnt) _ HS3.out.cntR Tryd.underlying87 rfl (info16 HS3.out.2.2.1) ?_)
      | (go_at_call 73; refine (one_any cnt _ HS3.out.2.2.1).mono ?_; rintro e w9 ⟨rfl, hk⟩; rw [← HE2.out]; have HS4 := Lib.hid (HS3.out.kp0 hk); have HK4 : Hid (Kp (fun b => b = g) w w9) := Lib.hid (HK3.out.tr (hk.nil _)); clear hk)
      | (refine wl_store_part rfl 87 (.tmp 28) (.tmp 26) rfl g 44 _ _ (bys ci) rfl rfl HS4.out.1 (info16 HIL.out) (by rw [stm_len HS4.out, bys_len, HIL.out]; decide) (bys_onesV _) ?_
         intro w10 hA7 hK7
         have HS9 := Lib.hid (HS4.out.setCnt HIL.out hA7)
         have HK9 : Hid (Kp (fun b => b = g) w w10) := Lib.hid (HK4.out.tr hK7)
         clear hA7 hK7))
    have hL1 := HS9.out.leftC
    have hLf := HS9.out.frozen 76
    have hcx : w10.cell? ⟨g, 60, none⟩ = some (.int .u8 (x.toNat : Int)) := HS9.out.lastC 0 HKX.out
    simp only [Act.put]
    clear HS HS3 HS4 HK1 HK2 HK3 HK4 HE1 HE2 HKX
    go_region
    go_wp2
    go_ret
    exact ⟨rfl, HS9.out.drew'.setLeft _, HK9.out.drew.setCell (p := ⟨g, 76, none⟩) (fun _ => rfl) _⟩
  · have HX : Hid (∃ x, last[16 - left]? = some x ∧ nxB ks cnt last left = x ∧ nxC cnt left = cnt ∧ nxL ks cnt last left = last ∧ ((nxN left : Nat) : Int) = (left : Int) - 1) := Lib.hid (by
      refine ⟨_, getD_some (by rw [hs.2.2.2]; omega) 0, ?_⟩
      unfold nxB nxC nxL nxN
      simp only [if_neg h0]
      exact ⟨trivial, trivial, trivial, by omega⟩)
    obtain ⟨x, HKX', e1, e2, e3, e4⟩ := HX.out
    rw [e1, e2, e3, e4]
    obtain ⟨k, hk⟩ : ∃ k, k = 16 - left := ⟨_, rfl⟩
    rw [← hk] at HKX'
    have hk1 : (16 : Int) - (left : Int) = (k : Int) := by omega
    have hk2 : (k : Int) < 16 := by omega
    have hl1 : (left : Int) ≤ 16 := by omega
    have hl2 : 0 < (left : Int) := by omega
    have hl3 : ((left : Int) == 0) = false := by rw [beq_eq_false_iff_ne]; omega
    have hcx : w.cell? ⟨g, 60 + k, none⟩ = some (.int .u8 (x.toNat : Int)) := hs.lastC k HKX'
    have hLf := hs.frozen 76
    clear HX hs hq hl HKX' e1 e2 e3 e4 h0 hk
    go_enter Tryd.func56, Tryd.ntmps56
    go_wp2
    go_region
    go_wp2
    go_ret
    exact ⟨rfl, HS.out.setLeft _, ((Kp.refl (fun b => b = g) w).setCell (p := ⟨g, 76, none⟩) (fun _ => rfl) _).drew⟩
end Go.Proofs.YtnbfedmecmdjlaaDoor
