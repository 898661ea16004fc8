/- Package cipher: a block, enciphered. -/
import Derived.Test.YtomlednobmaaeaaDoorCiF
namespace Go.Proofs.YtomlednobmaaeaaDoor
open Go Go.RowKit
theorem shW_len (c : List (BitVec 32)) : (shW c).length = 4 := shS_len c 16
theorem xorW_len {a b : List (BitVec 32)} (h : a.length = 4) (h2 : b.length = 4) : (xorW a b).length = 4 := by simp [xorW, h, h2]
theorem mixW_len {a : List (BitVec 32)} (h : a.length = 4) : (mixW a).length = 4 := by simp [mixW, h]
theorem othW_len {a : List (BitVec 32)} (h : a.length = 4) : (othW a).length = 4 := by
  obtain ⟨p, q, r, s, rfl⟩ := len4 h
  rfl
def keyAt (ks : List (BitVec 32)) (i : Nat) : List (BitVec 32) := (ks.drop (i * 4)).take 4
theorem keyAt_ok {ks : List (BitVec 32)} (h : ks.length = 44) (i : Nat) (hi : i < 11) : (keyAt ks i).length = 4 ∧ u32s (keyAt ks i) = ((u32s ks).drop (i * 4)).take (u32s (keyAt ks i)).length := by
  have hl : (keyAt ks i).length = 4 := by rw [keyAt, List.length_take, List.length_drop]; omega
  refine ⟨hl, ?_⟩
  rw [u32s_len, hl]
  simp [keyAt, kis, zi]
def ubS (cs ks : List (BitVec 32)) : Nat → List (BitVec 32)
  | 0 => xorW cs (keyAt ks 0)
  | n + 1 => xorW (mixW (shW (othW (ubS cs ks n)))) (keyAt ks (n + 1))
def udW (cs ks : List (BitVec 32)) : List (BitVec 32) := xorW (shW (othW (ubS cs ks 9))) (keyAt ks 10)
theorem ubS_len {cs ks : List (BitVec 32)} (h : cs.length = 4) (hk : ks.length = 44) : ∀ n, n < 11 → (ubS cs ks n).length = 4
  | 0, _ => xorW_len h (keyAt_ok hk 0 (by omega)).1
  | n + 1, hn => xorW_len (mixW_len (shW_len _)) (keyAt_ok hk (n + 1) hn).1
theorem udW_len {cs ks : List (BitVec 32)} (hk : ks.length = 44) : (udW cs ks).length = 4 := xorW_len (shW_len _) (keyAt_ok hk 10 (by omega)).1
theorem info11 {ks : List (BitVec 32)} (h : ks.length = 44) : (Tryd.prog.info? 44).map (·.size) = some (u32s ks).length := by
  rw [u32s_len, h]; kernel_rfl
attribute [local irreducible] shW othW mixW xorW keyAt
set_option maxRecDepth 20000 in
set_option maxHeartbeats 4000000 in
theorem und_any (cs ks : List (BitVec 32)) (w : World) (hc : cs.length = 4) (hk : ks.length = 44) (hq : Sqr w) :
    Calls Tryd.prog 17 #[.agg (u32s cs).toArray, .agg (u32s ks).toArray] w fun e w' => e = .returned (.agg (u32s (udW cs ks)).toArray) ∧ Kp0 w w' := by
  have HKEY := Lib.hid (keyAt_ok hk)
  have HUB := Lib.hid (ubS_len hc hk)
  have HQ := Lib.hid hq
  have HC0 := Lib.hid hc
  obtain ⟨F, hF⟩ : ∃ F, F = ubS cs ks := ⟨_, rfl⟩
  have HF0 : Hid (F 0 = xorW cs (keyAt ks 0)) := Lib.hid (by rw [hF]; rfl)
  have HFS : Hid (∀ n, F (n + 1) = xorW (mixW (shW (othW (F n)))) (keyAt ks (n + 1))) := Lib.hid (by rw [hF]; intro n; rfl)
  rw [show udW cs ks = xorW (shW (othW (F 9))) (keyAt ks 10) by rw [hF]; rfl]
  rw [← hF] at HUB
  clear hc hk hq hF
  go_enter Tryd.func17, Tryd.ntmps17
  go_upto_region 1 with (fail)
  have HR := Lib.hid (rows3 w 43 (u32s cs) 44 (u32s ks) 43 (u32s z4))
  change Code.wp _ _ _ _ (((w.alloc (.cells (u32s cs).toArray 43)).alloc (.cells (u32s ks).toArray 44)).alloc (.cells (u32s z4).toArray 43))
  generalize (((w.alloc (.cells (u32s cs).toArray 43)).alloc (.cells (u32s ks).toArray 44)).alloc (.cells (u32s z4).toArray 43)) = w1 at HR
  go_upto_region 2 with (first
    | (refine wl_load_blk rfl 43 (.tmp 2) rfl (w.heap.size) _ (u32s cs) rfl (HR.out.blk 0 rfl rfl) _ Tryd.underlying43 rfl (infoBk HC0.out) ?_)
    | (refine wpList_load_mid rfl 43 (.tmp 7) rfl (w.heap.size + 1) 0 rfl (u32s (keyAt ks 0)) _ ((HR.out.blk 1 rfl rfl).part 0 (HKEY.out 0 (by omega)).2) Tryd.underlying43 rfl (infoBk (HKEY.out 0 (by omega)).1) ?_)
    | (go_at_call 25; refine (bxor_any cs (keyAt ks 0) _ HC0.out (HKEY.out 0 (by omega)).1).mono ?_; rintro e y1 ⟨rfl, hk⟩; have HR1 := Lib.hid (HR.out.kp0 hk); clear hk)
    | (refine wl_store_blk rfl 43 (.tmp 2) (.tmp 9) rfl (w.heap.size) _ (u32s cs) (u32s (xorW cs (keyAt ks 0))) rfl rfl (HR1.out.blk 0 rfl rfl) (infoBk (xorW_len HC0.out (HKEY.out 0 (by omega)).1)) (len_of (T := 43) (infoBk HC0.out) (infoBk (xorW_len HC0.out (HKEY.out 0 (by omega)).1))) (kis_ones _ _) ?_
       intro w7 hA7 hK7
       have HR2 := Lib.hid (HR1.out.store 0 rfl (g := w.heap.size) rfl hA7 hK7)
       clear hA7 hK7))
  go_wp2
  go_loopg [5] 10 (fun g i wr => ∃ (n : Nat), i = .int .i64 ((n + 1 : Nat) : Int) ∧ n ≤ 9 ∧ g = 10 - n ∧ Rows' w wr [(43, u32s (F n)), (44, u32s ks), (43, u32s z4)])
  case atStart => exact ⟨0, rfl, by omega, rfl, by rw [HF0.out]; exact HR2.out⟩
  case round =>
    obtain ⟨n0, rfl, hn, rfl, hr⟩ := hrel
    have HR1 := Lib.hid hr
    obtain ⟨c, hcF⟩ : ∃ c, c = F n0 := ⟨_, rfl⟩
    rw [← hcF] at HR1
    have HC : Hid (c.length = 4) := Lib.hid (by rw [hcF]; exact HUB.out n0 (by omega))
    have HCF := Lib.hid hcF
    clear hr hcF
    by_cases h : n0 < 9
    · obtain ⟨n, hnn⟩ : ∃ n, n = n0 + 1 := ⟨_, rfl⟩
      have HN := Lib.hid hnn
      rw [← hnn]
      have h10 : n < 11 := by omega
      have hn10 : (n : Int) < 10 := by omega
      have hn11 : (n : Int) < 11 := by omega
      clear h hn hnn
      go_upto_region 5 with (fail)
      have HK0 : Hid (Kp0 wr.drew wr.drew) := Lib.hid (Kp.refl _ _)
      refine wp_region_px 9 [8] (fun w' : World => Kp0 wr.drew w') (.quiet 0 (.quiet 4 (.quiet 5 (.quiet 6 (.eff 1 (.eff 2 (.eff 3 (.eff 7 (.wall 8 .done))))))))) (by kernel_rfl) (by kernel_rfl) (by kernel_rfl) (by kernel_rfl) (fun _ d _ _ _ h => by cases d <;> exact h) HK0.out ?_
      refine px_quiet (v := .agg (u32s c).toArray) rfl (by rfl) (fun wq hwq => run_load_blk 43 (.tmp 2) rfl (w.heap.size) _ (u32s c) rfl (HR1.out.kp0 ((Kp.refl _ _).drew.tr hwq) |>.blk 0 rfl rfl) _ Tryd.underlying43 rfl (infoBk HC.out)) rfl ?_
      try simp only [List.setIfInBounds_toArray, List.set_cons_zero, List.set_cons_succ]
      refine px_quiet (v := ?_) rfl (by rfl) (fun wq hwq => ?_) rfl ?_; rotate_left 1; (focus (go_simp; try (with_reducible rfl); done)); try simp only [List.setIfInBounds_toArray, List.set_cons_zero, List.set_cons_succ]
      refine px_quiet (v := ?_) rfl (by rfl) (fun wq hwq => ?_) rfl ?_; rotate_left 1; (focus (go_simp; try (with_reducible rfl); done)); try simp only [List.setIfInBounds_toArray, List.set_cons_zero, List.set_cons_succ]
      refine px_quiet (v := .agg (u32s (keyAt ks n)).toArray) rfl (by rfl) (fun wq hwq => run_load_mid 43 (.tmp 19) rfl (w.heap.size + 1) (n * 4) (u32s (keyAt ks n)) rfl (((HR1.out.kp0 ((Kp.refl _ _).drew.tr hwq)).blk 1 rfl (g := w.heap.size + 1) rfl).part (n * 4) (HKEY.out n h10).2) _ Tryd.underlying43 rfl (infoBk (HKEY.out n h10).1)) rfl ?_
      try simp only [List.setIfInBounds_toArray, List.set_cons_zero, List.set_cons_succ]
      refine px_eff rfl (by rfl) (fun K hK => ?_)
      go_simp
      refine (both_any c _ HC.out ((HQ.out.kp0 HR1.out.kp).kp0 (Kp.refl _ _).drew)).mono ?_
      rintro e zw1 ⟨rfl, hk⟩
      simp only []
      have HK1 : Hid (Kp0 wr.drew zw1) := Lib.hid (HK0.out.tr hk)
      clear hk
      refine hK (fun w' : World => Kp0 wr.drew w') _ _ (fun x h => h) HK1.out ?_
      clear hK K
      refine px_eff rfl (by rfl) (fun K hK => ?_)
      go_simp
      refine (bsh_any (othW c) _ (othW_len HC.out)).mono ?_
      rintro e zw2 ⟨rfl, hk⟩
      simp only []
      have HK2 : Hid (Kp0 wr.drew zw2) := Lib.hid (HK1.out.tr hk)
      clear hk
      refine hK (fun w' : World => Kp0 wr.drew w') _ _ (fun x h => h) HK2.out ?_
      clear hK K
      refine px_eff rfl (by rfl) (fun K hK => ?_)
      go_simp
      refine (bmx_any (shW (othW c)) _ (shW_len _)).mono ?_
      rintro e zw3 ⟨rfl, hk⟩
      simp only []
      have HK3 : Hid (Kp0 wr.drew zw3) := Lib.hid (HK2.out.tr hk)
      clear hk
      refine hK (fun w' : World => Kp0 wr.drew w') _ _ (fun x h => h) HK3.out ?_
      clear hK K
      refine px_eff rfl (by rfl) (fun K hK => ?_)
      go_simp
      refine (bxor_any (mixW (shW (othW c))) (keyAt ks n) _ (mixW_len (shW_len _)) (HKEY.out n h10).1).mono ?_
      rintro e zw4 ⟨rfl, hk⟩
      simp only []
      have HK4 : Hid (Kp0 wr.drew zw4) := Lib.hid (HK3.out.tr hk)
      clear hk
      refine hK (fun w' : World => Kp0 wr.drew w') _ _ (fun x h => h) HK4.out ?_
      clear hK K
      refine px_wall rfl (by rfl) (fun K hK => ?_)
      have HL4 : Hid ((xorW (mixW (shW (othW c))) (keyAt ks n)).length = 4) := Lib.hid (xorW_len (mixW_len (shW_len _)) (HKEY.out n h10).1)
      refine wp_store_blk 43 (.tmp 2) (.tmp 21) rfl (w.heap.size) _ (u32s c) (u32s (xorW (mixW (shW (othW c))) (keyAt ks n))) rfl rfl ((HR1.out.kp0 ((Kp.refl _ _).drew.tr HK4.out)).blk 0 rfl rfl) (infoBk HL4.out) (len_of (T := 43) (infoBk HC.out) (infoBk HL4.out)) (kis_ones _ _) ?_
      intro w8 hA8 hK8
      have HR8 := Lib.hid ((HR1.out.kp0 ((Kp.refl _ _).drew.tr HK4.out)).store 0 rfl (g := w.heap.size) rfl hA8 hK8)
      clear hA8 hK8
      refine hK (fun _ => True) _ _ trivial ?_
      clear hK K
      refine px_done ?_
      go_wp2
      go_roundg (10 - (n0 + 1))
      case measure => have := HN.out; omega
      case rel =>
        have HNo := HN.out
        refine ⟨n0 + 1, by go_num, by omega, rfl, ?_⟩
        rw [HFS.out, ← HCF.out, ← HNo]
        exact HR8.out
    · obtain rfl : n0 = 9 := by omega
      clear h hn
      go_upto_region 6 with (fail)
      have HK0 : Hid (Kp0 wr.drew wr.drew) := Lib.hid (Kp.refl _ _)
      refine wp_region_px 7 [6] (fun w' : World => Kp0 wr.drew w') (.quiet 0 (.quiet 3 (.quiet 4 (.eff 1 (.eff 2 (.eff 5 (.wall 6 .done))))))) (by kernel_rfl) (by kernel_rfl) (by kernel_rfl) (by kernel_rfl) (fun _ d _ _ _ h => by cases d <;> exact h) HK0.out ?_
      refine px_quiet (v := .agg (u32s c).toArray) rfl (by rfl) (fun wq hwq => run_load_blk 43 (.tmp 2) rfl (w.heap.size) _ (u32s c) rfl (HR1.out.kp0 ((Kp.refl _ _).drew.tr hwq) |>.blk 0 rfl rfl) _ Tryd.underlying43 rfl (infoBk HC.out)) rfl ?_
      try simp only [List.setIfInBounds_toArray, List.set_cons_zero, List.set_cons_succ]
      refine px_quiet (v := ?_) rfl (by rfl) (fun wq hwq => ?_) rfl ?_; rotate_left 1; (focus (go_simp; try (with_reducible rfl); done)); try simp only [List.setIfInBounds_toArray, List.set_cons_zero, List.set_cons_succ]
      refine px_quiet (v := .agg (u32s (keyAt ks 10)).toArray) rfl (by rfl) (fun wq hwq => run_load_mid 43 (.tmp 25) rfl (w.heap.size + 1) (40) (u32s (keyAt ks 10)) rfl (((HR1.out.kp0 ((Kp.refl _ _).drew.tr hwq)).blk 1 rfl (g := w.heap.size + 1) rfl).part 40 (HKEY.out 10 (by omega)).2) _ Tryd.underlying43 rfl (infoBk (HKEY.out 10 (by omega)).1)) rfl ?_
      try simp only [List.setIfInBounds_toArray, List.set_cons_zero, List.set_cons_succ]
      refine px_eff rfl (by rfl) (fun K hK => ?_)
      go_simp
      refine (both_any c _ HC.out ((HQ.out.kp0 HR1.out.kp).kp0 (Kp.refl _ _).drew)).mono ?_
      rintro e zw1 ⟨rfl, hk⟩
      simp only []
      have HK1 : Hid (Kp0 wr.drew zw1) := Lib.hid (HK0.out.tr hk)
      clear hk
      refine hK (fun w' : World => Kp0 wr.drew w') _ _ (fun x h => h) HK1.out ?_
      clear hK K
      refine px_eff rfl (by rfl) (fun K hK => ?_)
      go_simp
      refine (bsh_any (othW c) _ (othW_len HC.out)).mono ?_
      rintro e zw2 ⟨rfl, hk⟩
      simp only []
      have HK2 : Hid (Kp0 wr.drew zw2) := Lib.hid (HK1.out.tr hk)
      clear hk
      refine hK (fun w' : World => Kp0 wr.drew w') _ _ (fun x h => h) HK2.out ?_
      clear hK K
      refine px_eff rfl (by rfl) (fun K hK => ?_)
      go_simp
      refine (bxor_any (shW (othW c)) (keyAt ks 10) _ (shW_len _) (HKEY.out 10 (by omega)).1).mono ?_
      rintro e zw4 ⟨rfl, hk⟩
      simp only []
      have HK4 : Hid (Kp0 wr.drew zw4) := Lib.hid (HK2.out.tr hk)
      clear hk
      refine hK (fun w' : World => Kp0 wr.drew w') _ _ (fun x h => h) HK4.out ?_
      clear hK K
      refine px_wall rfl (by rfl) (fun K hK => ?_)
      have HL4 : Hid ((xorW (shW (othW c)) (keyAt ks 10)).length = 4) := Lib.hid (xorW_len (shW_len _) (HKEY.out 10 (by omega)).1)
      refine wp_store_blk 43 (.tmp 4) (.tmp 27) rfl (w.heap.size + 1 + 1) _ (u32s z4) (u32s (xorW (shW (othW c)) (keyAt ks 10))) rfl rfl ((HR1.out.kp0 ((Kp.refl _ _).drew.tr HK4.out)).blk 2 rfl rfl) (infoBk HL4.out) (len_of (T := 43) (infoBk (cs := z4) rfl) (infoBk HL4.out)) (kis_ones _ _) ?_
      intro w8 hA8 hK8
      have HA8 := Lib.hid hA8
      have HK8 : Hid (Kp0 w w8) := Lib.hid ((HR1.out.kp0 ((Kp.refl _ _).drew.tr HK4.out)).kp.trans hK8 (fun _ _ h => h) (fun i hi e => by omega))
      clear hA8 hK8
      refine hK (fun _ => True) _ _ trivial ?_
      clear hK K
      refine px_done ?_
      go_wp2
      refine ret_blk 4 43 43 (w.heap.size + 1 + 1) (u32s (xorW (shW (othW c)) (keyAt ks 10))) _ rfl rfl HA8.out Tryd.underlying43 rfl (infoBk HL4.out) rfl ?_
      exact ⟨by rw [HCF.out], HK8.out⟩
end Go.Proofs.YtomlednobmaaeaaDoor
