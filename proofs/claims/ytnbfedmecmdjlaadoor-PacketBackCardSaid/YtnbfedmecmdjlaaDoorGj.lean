/- Package cipher: the counter and one. Package cipher: a block, enciphered. Package cipher: the key's words. -/
import Derived.Test.YtnbfedmecmdjlaaDoorGi
namespace Go.Proofs.YtnbfedmecmdjlaaDoor
open Go Go.RowKit
/-- One more, of the first k bytes, the highest first. -/
def incAt (l : List UInt8) : Nat → List UInt8
  | 0 => l
  | k + 1 => if l.getD k 0 + 1 = 0 then incAt (l.set k 0) k else l.set k (l.getD k 0 + 1)
theorem incAt_len (l : List UInt8) : ∀ k, (incAt l k).length = l.length := by
  intro k
  induction k generalizing l with
  | zero => rfl
  | succ k ih =>
    rw [incAt]
    split
    · rw [ih, List.length_set]
    · rw [List.length_set]
def incB (l : List UInt8) : List UInt8 := incAt l 16
theorem incB_len (l : List UInt8) : (incB l).length = l.length := incAt_len l 16
theorem inc_step {cur rs : List UInt8} {k : Nat} (hl : cur.length = 16) (hk : k + 1 ≤ 16) (h : incAt cur (k + 1) = rs) :
    ∃ x y : UInt8, cur[k]? = some x ∧ (x.toNat + 1 : Int) % 256 = (y.toNat : Int) ∧ (y = 0 → incAt (cur.set k 0) k = rs) ∧ (y ≠ 0 → cur.set k y = rs) := by
  refine ⟨_, cur.getD k 0 + 1, getD_some (by omega) 0, u8_succ _, fun hy => ?_, fun hy => ?_⟩
  · rw [← h, incAt, if_pos hy]
  · rw [← h, incAt, if_neg hy]
set_option maxRecDepth 20000 in
set_option maxHeartbeats 4000000 in
theorem one_any (l : List UInt8) (w : World) (hl : l.length = 16) :
    Calls Tryd.prog 73 #[.agg (bys l).toArray] w fun e w' => e = .returned (.agg (bys (incB l)).toArray) ∧ Kp0 w w' := by
  obtain ⟨rs, hrs⟩ : ∃ rs, rs = incB l := ⟨_, rfl⟩
  have HX : Hid (rs.length = 16) := Lib.hid (by rw [hrs, incB_len, hl])
  have H0 : Hid (l.length = 16 ∧ incAt l 16 = rs) := Lib.hid ⟨hl, by rw [hrs]; rfl⟩
  rw [← hrs]
  clear hl hrs
  go_enter Tryd.func73, Tryd.ntmps73
  go_upto_region 1 with (fail)
  have HR := Lib.hid (rows2 w 87 (bys l) 87 (bys z16))
  change Code.wp _ _ _ _ ((w.alloc (.cells (bys l).toArray 87)).alloc (.cells (bys z16).toArray 87))
  generalize ((w.alloc (.cells (bys l).toArray 87)).alloc (.cells (bys z16).toArray 87)) = w1 at HR
  go_wp2
  go_loopg [3] 16 (fun g i wr => ∃ (k : Nat) (cur : List UInt8), i = .int .i64 ((k : Int) - 1) ∧ k ≤ 16 ∧ g = k ∧ (cur.length = 16 ∧ incAt cur k = rs) ∧ Rows' w wr [(87, bys cur), (87, bys z16)])
  case atStart => exact ⟨16, l, rfl, by omega, rfl, H0.out, HR.out⟩
  case round =>
    obtain ⟨k, cur, rfl, hk, rfl, hcur, hr⟩ := hrel
    have HR1 := Lib.hid hr
    have HC := Lib.hid hcur
    clear hr HR H0 hcur
    cases gk with
    | succ m =>
      obtain ⟨x, y, h1, h2, h3, h4⟩ := inc_step HC.out.1 hk HC.out.2
      have hm : (((m + 1 : Nat) : Int) - 1) = (m : Int) := by omega
      rw [hm]
      have hm16 : (m : Int) < 16 := by omega
      have hc1 := (HR1.out.blk 0 rfl (g := w.heap.size) rfl).cellV m (bys_getV h1)
      have hf1 := blk_frozen (HR1.out.blk 0 rfl (g := w.heap.size) rfl) m
      have HM := Lib.hid hk
      clear h1 hm hk
      by_cases hy : y = 0
      · have H3 := Lib.hid (h3 hy)
        clear h3 h4
        subst hy
        rw [show (((0 : UInt8).toNat : Nat) : Int) = 0 from rfl] at h2
        go_wp2
        go_roundg m
        case measure => omega
        case rel =>
          have HMo := HM.out
          refine ⟨m, cur.set m 0, rfl, by omega, rfl, ⟨by rw [List.length_set]; exact HC.out.1, H3.out⟩, ?_⟩
          have hs := HR1.out.set 0 rfl m (.int .u8 (((0 : UInt8).toNat : Nat) : Int)) (g := w.heap.size) rfl
          rw [bys_setV] at hs
          exact hs
      · have H4 := Lib.hid (h4 hy)
        have hne := u8_ne hy
        clear h3 h4 hy
        have HR2 : Hid (Rows' w (wr.setCell ⟨w.heap.size, m, none⟩ (.int .u8 (y.toNat : Int))) [(87, bys rs), (87, bys z16)]) := Lib.hid (by
          have hs := HR1.out.set 0 rfl m (.int .u8 (y.toNat : Int)) (g := w.heap.size) rfl
          rw [bys_setV, H4.out] at hs
          exact hs)
        go_wp2_with (first
          | (refine wl_load_blk rfl 87 (.tmp 1) rfl (w.heap.size) _ _ rfl (HR2.out.blk 0 rfl rfl) _ Tryd.underlying87 rfl (info16 HX.out) ?_)
          | (refine wl_store_blk rfl 87 (.tmp 2) (.tmp 17) rfl (w.heap.size + 1) _ _ (bys rs) rfl rfl (HR2.out.blk 1 rfl rfl) (info16 HX.out) (len_of (T := 87) (info16 (l := z16) rfl) (info16 HX.out)) (bys_onesV _) ?_
             intro w7 hA7 hK7
             have HA7 := Lib.hid hA7
             have HK7 := Lib.hid hK7
             clear hA7 hK7))
        refine ret_blk 2 87 87 (w.heap.size + 1) (bys rs) _ rfl rfl HA7.out Tryd.underlying87 rfl (info16 HX.out) rfl ?_
        exact ⟨rfl, HR2.out.kp.trans HK7.out (fun _ _ h => h) (fun i hi e => by omega)⟩
    | zero =>
      have HR2 : Hid (Rows' w wr [(87, bys rs), (87, bys z16)]) := Lib.hid (by rw [← HC.out.2]; exact HR1.out)
      clear HR1 HC
      go_wp2_with (first
        | (refine wl_load_blk rfl 87 (.tmp 1) rfl (w.heap.size) _ _ rfl (HR2.out.blk 0 rfl rfl) _ Tryd.underlying87 rfl (info16 HX.out) ?_)
        | (refine wl_store_blk rfl 87 (.tmp 2) (.tmp 17) rfl (w.heap.size + 1) _ _ (bys rs) rfl rfl (HR2.out.blk 1 rfl rfl) (info16 HX.out) (len_of (T := 87) (info16 (l := z16) rfl) (info16 HX.out)) (bys_onesV _) ?_
           intro w7 hA7 hK7
           have HA7 := Lib.hid hA7
           have HK7 := Lib.hid hK7
           clear hA7 hK7))
      refine ret_blk 2 87 87 (w.heap.size + 1) (bys rs) _ rfl rfl HA7.out Tryd.underlying87 rfl (info16 HX.out) rfl ?_
      exact ⟨rfl, HR2.out.kp.trans HK7.out (fun _ _ h => h) (fun i hi e => by omega)⟩
end Go.Proofs.YtnbfedmecmdjlaaDoor
namespace Go.Proofs.YtnbfedmecmdjlaaDoor
open Go Go.RowKit
theorem shW_len (c : List (BitVec 32)) : (shW c).length = 4 := shS_len c 16
theorem xorW_len {a b : List (BitVec 32)} (h : a.length = 4) (h2 : b.length = 4) : (xorW a b).length = 4 := by simp [xorW, h, h2]
theorem mixW_len {a : List (BitVec 32)} (h : a.length = 4) : (mixW a).length = 4 := by simp [mixW, h]
theorem othW_len {a : List (BitVec 32)} (h : a.length = 4) : (othW a).length = 4 := by
  obtain ⟨p, q, r, s, rfl⟩ := len4 h
  rfl
def keyAt (ks : List (BitVec 32)) (i : Nat) : List (BitVec 32) := (ks.drop (i * 4)).take 4
theorem keyAt_ok {ks : List (BitVec 32)} (h : ks.length = 44) (i : Nat) (hi : i < 11) : (keyAt ks i).length = 4 ∧ u32s (keyAt ks i) = ((u32s ks).drop (i * 4)).take (u32s (keyAt ks i)).length := by
  have hl : (keyAt ks i).length = 4 := by rw [keyAt, List.length_take, List.length_drop]; omega
  refine ⟨hl, ?_⟩
  rw [u32s_len, hl]
  simp [keyAt, kis, zi]
def ubS (cs ks : List (BitVec 32)) : Nat → List (BitVec 32)
  | 0 => xorW cs (keyAt ks 0)
  | n + 1 => xorW (mixW (shW (othW (ubS cs ks n)))) (keyAt ks (n + 1))
def udW (cs ks : List (BitVec 32)) : List (BitVec 32) := xorW (shW (othW (ubS cs ks 9))) (keyAt ks 10)
theorem ubS_len {cs ks : List (BitVec 32)} (h : cs.length = 4) (hk : ks.length = 44) : ∀ n, n < 11 → (ubS cs ks n).length = 4
  | 0, _ => xorW_len h (keyAt_ok hk 0 (by omega)).1
  | n + 1, hn => xorW_len (mixW_len (shW_len _)) (keyAt_ok hk (n + 1) hn).1
theorem udW_len {cs ks : List (BitVec 32)} (hk : ks.length = 44) : (udW cs ks).length = 4 := xorW_len (shW_len _) (keyAt_ok hk 10 (by omega)).1
theorem info11 {ks : List (BitVec 32)} (h : ks.length = 44) : (Tryd.prog.info? 85).map (·.size) = some (u32s ks).length := by
  rw [u32s_len, h]; kernel_rfl
attribute [local irreducible] shW othW mixW xorW keyAt
set_option maxRecDepth 20000 in
set_option maxHeartbeats 4000000 in
theorem und_any (cs ks : List (BitVec 32)) (w : World) (hc : cs.length = 4) (hk : ks.length = 44) (hq : Sqr w) :
    Calls Tryd.prog 84 #[.agg (u32s cs).toArray, .agg (u32s ks).toArray] w fun e w' => e = .returned (.agg (u32s (udW cs ks)).toArray) ∧ Kp0 w w' := by
  have HKEY := Lib.hid (keyAt_ok hk)
  have HUB := Lib.hid (ubS_len hc hk)
  have HQ := Lib.hid hq
  have HC0 := Lib.hid hc
  obtain ⟨F, hF⟩ : ∃ F, F = ubS cs ks := ⟨_, rfl⟩
  have HF0 : Hid (F 0 = xorW cs (keyAt ks 0)) := Lib.hid (by rw [hF]; rfl)
  have HFS : Hid (∀ n, F (n + 1) = xorW (mixW (shW (othW (F n)))) (keyAt ks (n + 1))) := Lib.hid (by rw [hF]; intro n; rfl)
  rw [show udW cs ks = xorW (shW (othW (F 9))) (keyAt ks 10) by rw [hF]; rfl]
  rw [← hF] at HUB
  clear hc hk hq hF
  go_enter Tryd.func84, Tryd.ntmps84
  go_upto_region 1 with (fail)
  have HR := Lib.hid (rows3 w 84 (u32s cs) 85 (u32s ks) 84 (u32s z4))
  change Code.wp _ _ _ _ (((w.alloc (.cells (u32s cs).toArray 84)).alloc (.cells (u32s ks).toArray 85)).alloc (.cells (u32s z4).toArray 84))
  generalize (((w.alloc (.cells (u32s cs).toArray 84)).alloc (.cells (u32s ks).toArray 85)).alloc (.cells (u32s z4).toArray 84)) = w1 at HR
  go_upto_region 2 with (first
    | (refine wl_load_blk rfl 84 (.tmp 2) rfl (w.heap.size) _ (u32s cs) rfl (HR.out.blk 0 rfl rfl) _ Tryd.underlying84 rfl (infoBk HC0.out) ?_)
    | (refine wpList_load_mid rfl 84 (.tmp 7) rfl (w.heap.size + 1) 0 rfl (u32s (keyAt ks 0)) _ ((HR.out.blk 1 rfl rfl).part 0 (HKEY.out 0 (by omega)).2) Tryd.underlying84 rfl (infoBk (HKEY.out 0 (by omega)).1) ?_)
    | (go_at_call 88; refine (bxor_any cs (keyAt ks 0) _ HC0.out (HKEY.out 0 (by omega)).1).mono ?_; rintro e y1 ⟨rfl, hk⟩; have HR1 := Lib.hid (HR.out.kp0 hk); clear hk)
    | (refine wl_store_blk rfl 84 (.tmp 2) (.tmp 9) rfl (w.heap.size) _ (u32s cs) (u32s (xorW cs (keyAt ks 0))) rfl rfl (HR1.out.blk 0 rfl rfl) (infoBk (xorW_len HC0.out (HKEY.out 0 (by omega)).1)) (len_of (T := 84) (infoBk HC0.out) (infoBk (xorW_len HC0.out (HKEY.out 0 (by omega)).1))) (kis_ones _ _) ?_
       intro w7 hA7 hK7
       have HR2 := Lib.hid (HR1.out.store 0 rfl (g := w.heap.size) rfl hA7 hK7)
       clear hA7 hK7))
  go_wp2
  go_loopg [5] 10 (fun g i wr => ∃ (n : Nat), i = .int .i64 ((n + 1 : Nat) : Int) ∧ n ≤ 9 ∧ g = 10 - n ∧ Rows' w wr [(84, u32s (F n)), (85, u32s ks), (84, u32s z4)])
  case atStart => exact ⟨0, rfl, by omega, rfl, by rw [HF0.out]; exact HR2.out⟩
  case round =>
    obtain ⟨n0, rfl, hn, rfl, hr⟩ := hrel
    have HR1 := Lib.hid hr
    obtain ⟨c, hcF⟩ : ∃ c, c = F n0 := ⟨_, rfl⟩
    rw [← hcF] at HR1
    have HC : Hid (c.length = 4) := Lib.hid (by rw [hcF]; exact HUB.out n0 (by omega))
    have HCF := Lib.hid hcF
    clear hr hcF
    by_cases h : n0 < 9
    · obtain ⟨n, hnn⟩ : ∃ n, n = n0 + 1 := ⟨_, rfl⟩
      have HN := Lib.hid hnn
      rw [← hnn]
      have h10 : n < 11 := by omega
      have hn10 : (n : Int) < 10 := by omega
      have hn11 : (n : Int) < 11 := by omega
      clear h hn hnn
      go_upto_region 5 with (fail)
      have HK0 : Hid (Kp0 wr.drew wr.drew) := Lib.hid (Kp.refl _ _)
      refine wp_region_px 9 [8] (fun w' : World => Kp0 wr.drew w') (.quiet 0 (.quiet 4 (.quiet 5 (.quiet 6 (.eff 1 (.eff 2 (.eff 3 (.eff 7 (.wall 8 .done))))))))) (by kernel_rfl) (by kernel_rfl) (by kernel_rfl) (by kernel_rfl) (fun _ d _ _ _ h => by cases d <;> exact h) HK0.out ?_
      refine px_quiet (v := .agg (u32s c).toArray) rfl (by rfl) (fun wq hwq => run_load_blk 84 (.tmp 2) rfl (w.heap.size) _ (u32s c) rfl (HR1.out.kp0 ((Kp.refl _ _).drew.tr hwq) |>.blk 0 rfl rfl) _ Tryd.underlying84 rfl (infoBk HC.out)) rfl ?_
      try simp only [List.setIfInBounds_toArray, List.set_cons_zero, List.set_cons_succ]
      refine px_quiet (v := ?_) rfl (by rfl) (fun wq hwq => ?_) rfl ?_; rotate_left 1; (focus (go_simp; try (with_reducible rfl); done)); try simp only [List.setIfInBounds_toArray, List.set_cons_zero, List.set_cons_succ]
      refine px_quiet (v := ?_) rfl (by rfl) (fun wq hwq => ?_) rfl ?_; rotate_left 1; (focus (go_simp; try (with_reducible rfl); done)); try simp only [List.setIfInBounds_toArray, List.set_cons_zero, List.set_cons_succ]
      refine px_quiet (v := .agg (u32s (keyAt ks n)).toArray) rfl (by rfl) (fun wq hwq => run_load_mid 84 (.tmp 19) rfl (w.heap.size + 1) (n * 4) (u32s (keyAt ks n)) rfl (((HR1.out.kp0 ((Kp.refl _ _).drew.tr hwq)).blk 1 rfl (g := w.heap.size + 1) rfl).part (n * 4) (HKEY.out n h10).2) _ Tryd.underlying84 rfl (infoBk (HKEY.out n h10).1)) rfl ?_
      try simp only [List.setIfInBounds_toArray, List.set_cons_zero, List.set_cons_succ]
      refine px_eff rfl (by rfl) (fun K hK => ?_)
      go_simp
      refine (both_any c _ HC.out ((HQ.out.kp0 HR1.out.kp).kp0 (Kp.refl _ _).drew)).mono ?_
      rintro e zw1 ⟨rfl, hk⟩
      simp only []
      have HK1 : Hid (Kp0 wr.drew zw1) := Lib.hid (HK0.out.tr hk)
      clear hk
      refine hK (fun w' : World => Kp0 wr.drew w') _ _ (fun x h => h) HK1.out ?_
      clear hK K
      refine px_eff rfl (by rfl) (fun K hK => ?_)
      go_simp
      refine (bsh_any (othW c) _ (othW_len HC.out)).mono ?_
      rintro e zw2 ⟨rfl, hk⟩
      simp only []
      have HK2 : Hid (Kp0 wr.drew zw2) := Lib.hid (HK1.out.tr hk)
      clear hk
      refine hK (fun w' : World => Kp0 wr.drew w') _ _ (fun x h => h) HK2.out ?_
      clear hK K
      refine px_eff rfl (by rfl) (fun K hK => ?_)
      go_simp
      refine (bmx_any (shW (othW c)) _ (shW_len _)).mono ?_
      rintro e zw3 ⟨rfl, hk⟩
      simp only []
      have HK3 : Hid (Kp0 wr.drew zw3) := Lib.hid (HK2.out.tr hk)
      clear hk
      refine hK (fun w' : World => Kp0 wr.drew w') _ _ (fun x h => h) HK3.out ?_
      clear hK K
      refine px_eff rfl (by rfl) (fun K hK => ?_)
      go_simp
      refine (bxor_any (mixW (shW (othW c))) (keyAt ks n) _ (mixW_len (shW_len _)) (HKEY.out n h10).1).mono ?_
      rintro e zw4 ⟨rfl, hk⟩
      simp only []
      have HK4 : Hid (Kp0 wr.drew zw4) := Lib.hid (HK3.out.tr hk)
      clear hk
      refine hK (fun w' : World => Kp0 wr.drew w') _ _ (fun x h => h) HK4.out ?_
      clear hK K
      refine px_wall rfl (by rfl) (fun K hK => ?_)
      have HL4 : Hid ((xorW (mixW (shW (othW c))) (keyAt ks n)).length = 4) := Lib.hid (xorW_len (mixW_len (shW_len _)) (HKEY.out n h10).1)
      refine wp_store_blk 84 (.tmp 2) (.tmp 21) rfl (w.heap.size) _ (u32s c) (u32s (xorW (mixW (shW (othW c))) (keyAt ks n))) rfl rfl ((HR1.out.kp0 ((Kp.refl _ _).drew.tr HK4.out)).blk 0 rfl rfl) (infoBk HL4.out) (len_of (T := 84) (infoBk HC.out) (infoBk HL4.out)) (kis_ones _ _) ?_
      intro w8 hA8 hK8
      have HR8 := Lib.hid ((HR1.out.kp0 ((Kp.refl _ _).drew.tr HK4.out)).store 0 rfl (g := w.heap.size) rfl hA8 hK8)
      clear hA8 hK8
      refine hK (fun _ => True) _ _ trivial ?_
      clear hK K
      refine px_done ?_
      go_wp2
      go_roundg (10 - (n0 + 1))
      case measure => have := HN.out; omega
      case rel =>
        have HNo := HN.out
        refine ⟨n0 + 1, by go_num, by omega, rfl, ?_⟩
        rw [HFS.out, ← HCF.out, ← HNo]
        exact HR8.out
    · obtain rfl : n0 = 9 := by omega
      clear h hn
      go_upto_region 6 with (fail)
      have HK0 : Hid (Kp0 wr.drew wr.drew) := Lib.hid (Kp.refl _ _)
      refine wp_region_px 7 [6] (fun w' : World => Kp0 wr.drew w') (.quiet 0 (.quiet 3 (.quiet 4 (.eff 1 (.eff 2 (.eff 5 (.wall 6 .done))))))) (by kernel_rfl) (by kernel_rfl) (by kernel_rfl) (by kernel_rfl) (fun _ d _ _ _ h => by cases d <;> exact h) HK0.out ?_
      refine px_quiet (v := .agg (u32s c).toArray) rfl (by rfl) (fun wq hwq => run_load_blk 84 (.tmp 2) rfl (w.heap.size) _ (u32s c) rfl (HR1.out.kp0 ((Kp.refl _ _).drew.tr hwq) |>.blk 0 rfl rfl) _ Tryd.underlying84 rfl (infoBk HC.out)) rfl ?_
      try simp only [List.setIfInBounds_toArray, List.set_cons_zero, List.set_cons_succ]
      refine px_quiet (v := ?_) rfl (by rfl) (fun wq hwq => ?_) rfl ?_; rotate_left 1; (focus (go_simp; try (with_reducible rfl); done)); try simp only [List.setIfInBounds_toArray, List.set_cons_zero, List.set_cons_succ]
      refine px_quiet (v := .agg (u32s (keyAt ks 10)).toArray) rfl (by rfl) (fun wq hwq => run_load_mid 84 (.tmp 25) rfl (w.heap.size + 1) (40) (u32s (keyAt ks 10)) rfl (((HR1.out.kp0 ((Kp.refl _ _).drew.tr hwq)).blk 1 rfl (g := w.heap.size + 1) rfl).part 40 (HKEY.out 10 (by omega)).2) _ Tryd.underlying84 rfl (infoBk (HKEY.out 10 (by omega)).1)) rfl ?_
      try simp only [List.setIfInBounds_toArray, List.set_cons_zero, List.set_cons_succ]
      refine px_eff rfl (by rfl) (fun K hK => ?_)
      go_simp
      refine (both_any c _ HC.out ((HQ.out.kp0 HR1.out.kp).kp0 (Kp.refl _ _).drew)).mono ?_
      rintro e zw1 ⟨rfl, hk⟩
      simp only []
      have HK1 : Hid (Kp0 wr.drew zw1) := Lib.hid (HK0.out.tr hk)
      clear hk
      refine hK (fun w' : World => Kp0 wr.drew w') _ _ (fun x h => h) HK1.out ?_
      clear hK K
      refine px_eff rfl (by rfl) (fun K hK => ?_)
      go_simp
      refine (bsh_any (othW c) _ (othW_len HC.out)).mono ?_
      rintro e zw2 ⟨rfl, hk⟩
      simp only []
      have HK2 : Hid (Kp0 wr.drew zw2) := Lib.hid (HK1.out.tr hk)
      clear hk
      refine hK (fun w' : World => Kp0 wr.drew w') _ _ (fun x h => h) HK2.out ?_
      clear hK K
      refine px_eff rfl (by rfl) (fun K hK => ?_)
      go_simp
      refine (bxor_any (shW (othW c)) (keyAt ks 10) _ (shW_len _) (HKEY.out 10 (by omega)).1).mono ?_
      rintro e zw4 ⟨rfl, hk⟩
      simp only []
      have HK4 : Hid (Kp0 wr.drew zw4) := Lib.hid (HK2.out.tr hk)
      clear hk
      refine hK (fun w' : World => Kp0 wr.drew w') _ _ (fun x h => h) HK4.out ?_
      clear hK K
      refine px_wall rfl (by rfl) (fun K hK => ?_)
      have HL4 : Hid ((xorW (shW (othW c)) (keyAt ks 10)).length = 4) := Lib.hid (xorW_len (shW_len _) (HKEY.out 10 (by omega)).1)
      refine wp_store_blk 84 (.tmp 4) (.tmp 27) rfl (w.heap.size + 1 + 1) _ (u32s z4) (u32s (xorW (shW (othW c)) (keyAt ks 10))) rfl rfl ((HR1.out.kp0 ((Kp.refl _ _).drew.tr HK4.out)).blk 2 rfl rfl) (infoBk HL4.out) (len_of (T := 84) (infoBk (cs := z4) rfl) (infoBk HL4.out)) (kis_ones _ _) ?_
      intro w8 hA8 hK8
      have HA8 := Lib.hid hA8
      have HK8 : Hid (Kp0 w w8) := Lib.hid ((HR1.out.kp0 ((Kp.refl _ _).drew.tr HK4.out)).kp.trans hK8 (fun _ _ h => h) (fun i hi e => by omega))
      clear hA8 hK8
      refine hK (fun _ => True) _ _ trivial ?_
      clear hK K
      refine px_done ?_
      go_wp2
      refine ret_blk 4 84 84 (w.heap.size + 1 + 1) (u32s (xorW (shW (othW c)) (keyAt ks 10))) _ rfl rfl HA8.out Tryd.underlying84 rfl (infoBk HL4.out) rfl ?_
      exact ⟨by rw [HCF.out], HK8.out⟩
end Go.Proofs.YtnbfedmecmdjlaaDoor
namespace Go.Proofs.YtnbfedmecmdjlaaDoor
open Go Go.RowKit
open Aes (otB twB)
/-- A value of several cells goes into a part of a block. -/
theorem wl_store_part {P : Program} {ops : Array Oper} {rest : List Oper} {op : Oper} {a : Act} {w : World} {Q : Exit → Act → World → Prop} (hgd : op.guard = none) (ty : TypeId) (x y : Operand) (ho : op.op = .store ty x y)
    (g o : Nat) (T : TypeId) (old cs : List Value) (hx : a.eval x = .pointer (some ⟨g, o, none⟩)) (hy : a.eval y = .agg cs.toArray) (hA : Blk w g T old)
    (hi : (P.info? ty).map (·.size) = some cs.length) (hl : o + cs.length ≤ old.length) (h1 : Ones cs)
    (h : ∀ w', Blk w' g T (old.take o ++ cs ++ old.drop (o + cs.length)) → Kp (fun b => b = g) w w' → wpList P ops Q rest (a.put op.dst undef) w') : wpList P ops Q (op :: rest) a w := by
  have hs := run_storeCells_at (P := P) g o T cs 0 old.toArray w hA (by simpa using hl) h1
  have hst : (storeVar ty ⟨g, o, none⟩ (.agg cs.toArray)).run P w = .ok () (w.setRow g (old.take o ++ cs ++ old.drop (o + cs.length)).toArray) := by
    cases hq : P.info? ty with
    | none => simp [hq] at hi
    | some i =>
      have hz : cs.length = i.size := by simp [hq] at hi; omega
      simp only [Nat.add_zero] at hs
      simp [storeVar, sizeOf, typeInfo, hq, Value.cells, hz] at hs ⊢
      exact hs
  refine wpList_plain hgd fun _ hK => ?_
  unfold Oper.wp execOp
  simp only [ho, hx, hy, Instr.storeAt, Instr.sureAddr, Sem.run_bind, Sem.run_pure, Result.andThen_ok, hst]
  exact hK _ _ (h _ (set_blk hA).1 (set_blk hA).2)
def z44 : List (BitVec 32) := List.replicate 44 0#32
def rt1 (x : BitVec 32) : BitVec 64 := (rot x 8).setWidth 64
def rt2 (x : BitVec 32) (p : BitVec 64) : BitVec 64 := otB (rt1 x) ^^^ p
def rt3 (x : BitVec 32) (p : BitVec 64) : BitVec 32 := (rt2 x p).setWidth 32
def kx (x y : BitVec 32) : BitVec 32 := x ^^^ y
theorem rt1_val (x : BitVec 32) : IntKind.u64.wrap ((rot x 8).toNat : Int) = ((rt1 x).toNat : Int) := by
  rw [f_widen, wrap64]
  rfl
theorem rt2_val (x : BitVec 32) (p : BitVec 64) : bits .xor .u64 ((otB (rt1 x)).toNat : Int) (p.toNat : Int) = ((rt2 x p).toNat : Int) := f64_xor _ _
theorem rt3_val (x : BitVec 32) (p : BitVec 64) : ((rt2 x p).toNat : Int) % 4294967296 = ((rt3 x p).toNat : Int) := by
  rw [← IntKind.wrap_u32', f_trunc]
  rfl
theorem kx_val (x y : BitVec 32) : bits .xor .u32 (x.toNat : Int) (y.toNat : Int) = ((kx x y).toNat : Int) := f32_xor _ _
def pwF : Nat → BitVec 64
  | 0 => 16777216#64
  | i + 1 => twB (pwF i)
/-- The words and the last one made, behind m of them. -/
def kst (c : List (BitVec 32)) : Nat → List (BitVec 32) × BitVec 32
  | 0 => (c ++ z44.drop 4, 0#32)
  | m + 1 =>
    let t := kx (if m % 4 = 0 then rt3 ((kst c m).1.getD (m + 3) 0#32) (pwF (m / 4)) else (kst c m).2) ((kst c m).1.getD m 0#32)
    ((kst c m).1.set (m + 4) t, t)
theorem kst_len {c : List (BitVec 32)} (hc : c.length = 4) : ∀ m, (kst c m).1.length = 44
  | 0 => by rw [kst]; simp [hc, z44]
  | m + 1 => by rw [kst]; simp only []; rw [List.length_set, kst_len hc m]
theorem kst_old (c : List (BitVec 32)) (m p : Nat) (h : p ≠ m + 4) : (kst c (m + 1)).1[p]? = (kst c m).1[p]? := by
  rw [kst]
  simp only []
  rw [List.getElem?_set_ne (by omega)]
def tIn (c : List (BitVec 32)) (i j : Nat) : BitVec 32 := if j = 0 then rt3 ((kst c (4 * i)).1.getD (4 * i + 3) 0#32) (pwF i) else (kst c (4 * i + j)).2
theorem kst_row (c : List (BitVec 32)) (i p : Nat) (hp : p < 4) : ∀ j, (kst c (4 * i + j)).1[4 * i + p]? = (kst c (4 * i)).1[4 * i + p]?
  | 0 => rfl
  | j + 1 => by rw [← Nat.add_assoc, kst_old c (4 * i + j) (4 * i + p) (by omega), kst_row c i p hp j]
theorem k_step {c : List (BitVec 32)} (hc : c.length = 4) (i j : Nat) (hi : i < 10) (hj : j < 4) : ∃ (x y : BitVec 32) (k : Nat), (keyAt (kst c (4 * i)).1 i)[j]? = some x ∧ (kst c (4 * i + j)).1[k]? = some y ∧ k = (i + 1) * 4 + j ∧ kx (tIn c i j) x = tIn c i (j + 1) ∧ (kst c (4 * i + j)).1.set k (tIn c i (j + 1)) = (kst c (4 * i + (j + 1))).1 := by
  have hl := kst_len hc (4 * i)
  have hl2 := kst_len hc (4 * i + j)
  have hx : (kst c (4 * i)).1[4 * i + j]? = some ((kst c (4 * i)).1.getD (4 * i + j) 0#32) := getD_some (by rw [hl]; omega) _
  have hw : (kst c (4 * i + j)).1.getD (4 * i + j) 0#32 = (kst c (4 * i)).1.getD (4 * i + j) 0#32 := by
    rw [List.getD_eq_getElem?_getD, List.getD_eq_getElem?_getD, kst_row c i j hj j]
  have ht : tIn c i (j + 1) = kx (tIn c i j) ((kst c (4 * i)).1.getD (4 * i + j) 0#32) := by
    show (if j + 1 = 0 then _ else (kst c (4 * i + (j + 1))).2) = _
    rw [if_neg (by omega), ← Nat.add_assoc, kst]
    simp only []
    rw [hw]
    congr 1
    unfold tIn
    by_cases h0 : j = 0
    · subst h0
      rw [if_pos (by omega), if_pos rfl, show (4 * i + 0) / 4 = i by omega]
      rfl
    · rw [if_neg (by omega), if_neg h0]
  refine ⟨_, _, (i + 1) * 4 + j, ?_, getD_some (by rw [hl2]; omega) 0#32, rfl, ht.symm, ?_⟩
  · rw [keyAt, List.getElem?_take, if_pos hj, List.getElem?_drop, Nat.mul_comm i 4]
    exact hx
  · rw [← Nat.add_assoc, kst]
    simp only []
    have he : tIn c i (j + 1) = (kst c (4 * i + j + 1)).2 := by
      unfold tIn
      rw [if_neg (by omega)]
      rfl
    rw [he, kst]
    simp only []
    congr 1
    omega
/-- The key's words. -/
def kyW (c : List (BitVec 32)) : List (BitVec 32) := (kst c 40).1
theorem kyW_len {c : List (BitVec 32)} (hc : c.length = 4) : (kyW c).length = 44 := kst_len hc 40
theorem kst_hd {c : List (BitVec 32)} (hc : c.length = 4) : (u32s z44).take 0 ++ u32s c ++ (u32s z44).drop (0 + (u32s c).length) = u32s (kst c 0).1 := by
  rw [u32s_len, hc, kst]
  simp [kis, zi, z44]
attribute [local irreducible] keyAt
set_option maxRecDepth 20000 in
set_option maxHeartbeats 4000000 in
theorem kof_any (key : List UInt8) (w : World) (hl : key.length = 16) (hq : Sqr w) :
    Calls Tryd.prog 47 #[.agg (bys key).toArray] w fun e w' => e = .returned (.agg (u32s (kyW (colsW key))).toArray) ∧ Kp0 w w' := by
  obtain ⟨c, hc⟩ : ∃ c, c = colsW key := ⟨_, rfl⟩
  have hc4 : c.length = 4 := by rw [hc]; exact colsW_len hl
  have HC := Lib.hid hc
  have HC4 := Lib.hid hc4
  have HL := Lib.hid hl
  have HQ := Lib.hid hq
  have HHD := Lib.hid (kst_hd hc4)
  have HKEY : Hid (∀ m i, i < 11 → (keyAt (kst c m).1 i).length = 4 ∧ u32s (keyAt (kst c m).1 i) = ((u32s (kst c m).1).drop (i * 4)).take (u32s (keyAt (kst c m).1 i)).length) := Lib.hid (fun m i hi => keyAt_ok (kst_len hc4 m) i hi)
  have HST := Lib.hid (k_step hc4)
  have HT0 : Hid (∀ i, i < 10 → ∃ x, (kst c (4 * i)).1[i * 4 + 3]? = some x ∧ tIn c i 0 = rt3 x (pwF i)) := Lib.hid (by
    intro i hi
    refine ⟨_, getD_some (by rw [kst_len hc4]; omega) 0#32, ?_⟩
    unfold tIn
    rw [if_pos rfl, Nat.mul_comm i 4])
  have HLEN : Hid (∀ m, (kst c m).1.length = 44) := Lib.hid (kst_len hc4)
  rw [← hc, show kyW c = (kst c (4 * 10)).1 from rfl]
  obtain ⟨F, hF⟩ : ∃ F : Nat → List (BitVec 32), F = fun m => (kst c m).1 := ⟨_, rfl⟩
  have hFm : ∀ m, (kst c m).1 = F m := by rw [hF]; intro m; rfl
  simp only [hFm] at HHD HKEY HST HT0 HLEN ⊢
  clear hc hc4 hl hq hF hFm
  go_enter Tryd.func47, Tryd.ntmps47
  go_upto_region 2 with (fail)
  have HR := Lib.hid (rows3 w 87 (bys key) 85 (u32s z44) 85 (u32s z44))
  change Code.wp _ _ _ _ (((w.alloc (.cells (bys key).toArray 87)).alloc (.cells (u32s z44).toArray 85)).alloc (.cells (u32s z44).toArray 85))
  generalize (((w.alloc (.cells (bys key).toArray 87)).alloc (.cells (u32s z44).toArray 85)).alloc (.cells (u32s z44).toArray 85)) = w1 at HR
  go_upto_region 3 with (first
    | (refine wl_load_blk rfl 87 (.tmp 1) rfl (w.heap.size) _ (bys key) rfl (HR.out.blk 0 rfl rfl) _ Tryd.underlying87 rfl (info16 HL.out) ?_)
    | (go_at_call 63; refine (bof_any key _ HL.out).mono ?_; rintro e y1 ⟨rfl, hk⟩; rw [← HC.out]; have HR1 := Lib.hid (HR.out.kp0 hk); clear hk)
    | (refine wl_store_part rfl 84 (.tmp 11) (.tmp 10) rfl (w.heap.size + 1 + 1) 0 _ (u32s z44) (u32s c) rfl rfl (HR1.out.blk 2 rfl rfl) (infoBk HC4.out) (by rw [u32s_len, u32s_len, HC4.out]; decide) (kis_ones _ _) ?_
       intro w7 hA7 hK7
       rw [HHD.out] at hA7
       have HR2 := Lib.hid (HR1.out.store 2 rfl (g := w.heap.size + 1 + 1) rfl hA7 hK7)
       clear hA7 hK7))
  go_wp2
  go_loopg [4, 12] 10 (fun g p i wr => ∃ (n : Nat), p = .int .u64 ((pwF n).toNat : Int) ∧ i = .int .i64 n ∧ n ≤ 10 ∧ g = 10 - n ∧ Rows' w wr [(87, bys key), (85, u32s z44), (85, u32s (F (4 * n)))])
  case atStart => exact ⟨0, rfl, rfl, by omega, rfl, HR2.out⟩
  case round =>
    obtain ⟨n, rfl, rfl, hn, rfl, hr⟩ := hrel
    have HR3 := Lib.hid hr
    clear hr HR HR1 HR2
    obtain ⟨p, hp⟩ : ∃ p, p = pwF n := ⟨_, rfl⟩
    rw [← hp]
    have HP := Lib.hid hp
    clear hp
    by_cases h : n < 10
    · obtain ⟨x, hx1, hx2⟩ := HT0.out n h
      rw [← HP.out] at hx2
      have HT1 := Lib.hid hx2
      have hc1 := (HR3.out.blk 2 rfl (g := w.heap.size + 1 + 1) rfl).cellV (n * 4 + 3) (u32s_get hx1)
      have hn10 : (n : Int) < 10 := by omega
      have hn11 : (n : Int) < 11 := by omega
      have v1 := rt1_val x
      have v2 := rt2_val x p
      have v3 := rt3_val x p
      have HN := Lib.hid h
      clear hx1 hx2 h
      go_upto_region 9 with (first
        | (go_at_call 64; refine (rot_int _ _ _ (by decide)).mono ?_; rintro e w2 ⟨rfl, hk⟩; have HR4 := Lib.hid (HR3.out.kp0 hk); clear hk)
        | (go_at_call 65; refine (ot_any _ _ (HQ.out.kp0 HR4.out.kp)).mono ?_; rintro e w3 ⟨rfl, hk⟩; have HR5 := Lib.hid (HR4.out.kp0 hk); clear hk))
      rw [v3, ← HT1.out]
      clear v1 v2 v3 hc1 HR3 HR4
      go_upto_region 10 with (refine wpList_load_mid rfl 84 (.tmp 27) rfl (w.heap.size + 1 + 1) (n * 4) rfl (u32s (keyAt (F (4 * n)) n)) _ ((HR5.out.blk 2 rfl rfl).part (n * 4) (HKEY.out (4 * n) n (by omega)).2) Tryd.underlying84 rfl (infoBk (HKEY.out (4 * n) n (by omega)).1) ?_)
      go_loopg [6, 29] 4 (fun g t j wr => ∃ (m : Nat), t = .int .u32 ((tIn c n m).toNat : Int) ∧ j = .int .i64 m ∧ m ≤ 4 ∧ g = 4 - m ∧ Rows' w wr [(87, bys key), (85, u32s z44), (85, u32s (F (4 * n + m)))])
      case atStart => exact ⟨0, rfl, rfl, by omega, rfl, HR5.out⟩
      case round =>
        obtain ⟨m, rfl, rfl, hm, rfl, hr⟩ := hrel
        have HR6 := Lib.hid hr
        clear hr HR5
        obtain ⟨t, ht⟩ : ∃ t, t = tIn c n m := ⟨_, rfl⟩
        rw [← ht]
        have HTT := Lib.hid ht
        clear ht
        by_cases h : m < 4
        · obtain ⟨x2, y, k, h1, h2, h3, h4, h5⟩ := HST.out n m HN.out h
          rw [← HTT.out] at h4
          rw [← h4] at h5
          have hix := bk_index h1 h wr
          have hc1 := (HR6.out.blk 2 rfl (g := w.heap.size + 1 + 1) rfl).cellV k (u32s_get h2)
          have hf1 := blk_frozen (HR6.out.blk 2 rfl (g := w.heap.size + 1 + 1) rfl) k
          rw [h3] at hc1 hf1
          have hn11' : (n : Int) + 1 < 11 := by omega
          have hn0' : 0 ≤ (n : Int) + 1 := by omega
          have hm4' : (m : Int) < 4 := by omega
          have vk := kx_val t x2
          have H4 := Lib.hid h4
          have H5 := Lib.hid h5
          have H3 := Lib.hid h3
          clear h1 h2 h3 h4 h5
          go_wp2
          go_roundg (4 - (m + 1))
          case measure => omega
          case rel =>
            refine ⟨m + 1, by rw [H4.out], by go_num, by omega, rfl, ?_⟩
            have hs := HR6.out.set 2 rfl k (.int .u32 ((kx t x2).toNat : Int)) (g := w.heap.size + 1 + 1) rfl
            rw [u32s_set, H5.out] at hs
            rw [← H3.out]
            exact hs
        · obtain rfl : m = 4 := by omega
          have HR7 : Hid (Rows' w wr [(87, bys key), (85, u32s z44), (85, u32s (F (4 * (n + 1))))]) := Lib.hid HR6.out
          clear h HR6 hm
          go_upto_region 15 with (fail)
          go_wp2_with (go_at_call 66; refine (twice_any _ _).mono ?_; rintro e w8 ⟨rfl, hk⟩; have HR8 := Lib.hid (HR7.out.kp0 hk); clear hk)
          have HNo := HN.out
          go_roundg (10 - (n + 1))
          case measure => omega
          case rel => exact ⟨n + 1, by rw [pwF, ← HP.out], by go_num, by omega, rfl, HR8.out⟩
    · obtain rfl : n = 10 := by omega
      obtain ⟨rs, hrs⟩ : ∃ rs, rs = F (4 * 10) := ⟨_, rfl⟩
      have HXL : Hid (rs.length = 44) := Lib.hid (by rw [hrs]; exact HLEN.out _)
      have HR4 : Hid (Rows' w _ [(87, bys key), (85, u32s z44), (85, u32s rs)]) := Lib.hid (by rw [hrs]; exact HR3.out)
      have HE := Lib.hid hrs
      clear HST HT0 HKEY HHD hrs HR3 h hn
      go_wp2_with (first
        | (refine wl_load_blk rfl 85 (.tmp 3) rfl (w.heap.size + 1 + 1) _ _ rfl (HR4.out.blk 2 rfl rfl) _ Tryd.underlying85 rfl (info11 HXL.out) ?_)
        | (refine wl_store_blk rfl 85 (.tmp 2) (.tmp 46) rfl (w.heap.size + 1) _ _ (u32s rs) rfl rfl (HR4.out.blk 1 rfl rfl) (info11 HXL.out) (len_of (T := 85) (info11 (ks := z44) rfl) (info11 HXL.out)) (kis_ones _ _) ?_
           intro w7 hA7 hK7
           have HA7 := Lib.hid hA7
           have HK7 := Lib.hid hK7
           clear hA7 hK7))
      refine ret_blk 2 85 85 (w.heap.size + 1) (u32s rs) _ rfl rfl HA7.out Tryd.underlying85 rfl (info11 HXL.out) rfl ?_
      exact ⟨by rw [HE.out], HR4.out.kp.trans HK7.out (fun _ _ h => h) (fun i hi e => by omega)⟩
end Go.Proofs.YtnbfedmecmdjlaaDoor
