/- Package cipher: New; what none answers. -/
import Derived.Test.YtomlednobmaaeaaDoorCiJ
namespace Go.Proofs.YtomlednobmaaeaaDoor
open Go Go.RowKit
theorem Rd.range {w : World} {b o n cap : Nat} {xs : List Value} (h : Rd w (.slice (some ⟨b, o, none⟩) n cap) xs) : w.rangeAt b o xs := by
  obtain ⟨ao', cap', e, g1, g2, g3, g4⟩ := h
  simp only [Value.slice.injEq] at e
  obtain ⟨e1, _, _⟩ := e
  intro j v hv
  have := g4 ⟨b, o, none⟩ e1.symm j v hv
  rwa [Addr.add_lit] at this
attribute [local irreducible] kyW colsW
set_option maxRecDepth 20000 in
set_option maxHeartbeats 4000000 in
theorem new_any (vk vc : Value) (lk lc : List UInt8) (w : World) (hk : Rd w vk (bys lk)) (hc : Rd w vc (bys lc)) (hq : Sqr w) (h16 : lk.length = 16 ∧ lc.length = 16) :
    Calls Tryd.prog 9 #[vk, vc] w fun e w' => ∃ g, e = .returned (.tuple #[.pointer (some ⟨g, 0, none⟩), .int .i64 0]) ∧ Stm w' g (kyW (colsW lk)) lc z16 0 ∧ w.heap.size ≤ g ∧ Kp0 w w' := by
  obtain ⟨bk, ok, ck, rfl, _, _, _⟩ := hk.posB (by omega)
  obtain ⟨bc, oc, cc, rfl, _, _, _⟩ := hc.posB (by omega)
  have Hk := Lib.hid hk.range
  have Hc := Lib.hid hc.range
  have HQ := Lib.hid hq
  have H16 := Lib.hid h16
  have HKL : Hid ((kyW (colsW lk)).length = 44) := Lib.hid (kyW_len (colsW_len h16.1))
  have e1 := h16.1
  have e2 := h16.2
  rw [e1, e2]
  obtain ⟨ks, hks⟩ : ∃ ks, ks = kyW (colsW lk) := ⟨_, rfl⟩
  have HKS := Lib.hid hks
  rw [← hks] at HKL ⊢
  have ha1 : ∀ wq : World, (Instr.arrayAt 23 (.slice (some ⟨bk, ok, none⟩) 16 ck)).run Tryd.prog wq = .ok (.pointer (some ⟨bk, ok, none⟩)) wq := fun wq => run_arrayAt _ 23 _ 16 _ 16 ck Tryd.underlying23 (Nat.le_refl _)
  have ha2 : ∀ wq : World, (Instr.arrayAt 23 (.slice (some ⟨bc, oc, none⟩) 16 cc)).run Tryd.prog wq = .ok (.pointer (some ⟨bc, oc, none⟩)) wq := fun wq => run_arrayAt _ 23 _ 16 _ 16 cc Tryd.underlying23 (Nat.le_refl _)
  clear hk hc hq h16 e1 e2 hks
  go_enter Tryd.func9, Tryd.ntmps9
  go_upto_region 3 with (fail)
  have HK0 : Hid (Kp0 w.drew w.drew) := Lib.hid (Kp.refl _ _)
  refine wp_region_px 11 [] (fun w' : World => Kp0 w.drew w') (.quiet 0 (.quiet 1 (.quiet 2 (.quiet 4 (.quiet 5 (.quiet 6 (.eff 3 (.quiet 7 (.eff 8 (.quiet 9 (.quiet 10 .done))))))))))) (by kernel_rfl) (by kernel_rfl) (by kernel_rfl) (by kernel_rfl) (fun _ d _ _ _ h => by cases d <;> exact h) HK0.out ?_
  refine px_quiet (v := ?_) rfl (by rfl) (fun wq hwq => ?_) rfl ?_; rotate_left 1; (focus (go_simp; try (with_reducible rfl); done)); try simp only [List.setIfInBounds_toArray, List.set_cons_zero, List.set_cons_succ]
  refine px_quiet (v := ?_) rfl (by rfl) (fun wq hwq => ?_) rfl ?_; rotate_left 1; (focus (go_simp; try (with_reducible rfl); done)); try simp only [List.setIfInBounds_toArray, List.set_cons_zero, List.set_cons_succ]
  refine px_quiet (v := .agg (bys lk).toArray) rfl (by rfl) (fun wq hwq => run_load_mid 23 (.tmp 15) rfl (bk) (ok) (bys lk) rfl (fun j v hv => ((Kp.refl (fun _ => False) _).drew.tr hwq).cell (Hk.out j v hv) (fun h => h)) _ Tryd.underlying23 rfl (info16 H16.out.1)) rfl ?_
  try simp only [List.setIfInBounds_toArray, List.set_cons_zero, List.set_cons_succ]
  refine px_quiet (v := ?_) rfl (by rfl) (fun wq hwq => ?_) rfl ?_; rotate_left 1; (focus (go_simp; try (with_reducible rfl); done)); try simp only [List.setIfInBounds_toArray, List.set_cons_zero, List.set_cons_succ]
  refine px_quiet (v := ?_) rfl (by rfl) (fun wq hwq => ?_) rfl ?_; rotate_left 1; (focus (go_simp; try (with_reducible rfl); done)); try simp only [List.setIfInBounds_toArray, List.set_cons_zero, List.set_cons_succ]
  refine px_quiet (v := .agg (bys lc).toArray) rfl (by rfl) (fun wq hwq => run_load_mid 23 (.tmp 19) rfl (bc) (oc) (bys lc) rfl (fun j v hv => ((Kp.refl (fun _ => False) _).drew.tr hwq).cell (Hc.out j v hv) (fun h => h)) _ Tryd.underlying23 rfl (info16 H16.out.2)) rfl ?_
  try simp only [List.setIfInBounds_toArray, List.set_cons_zero, List.set_cons_succ]
  refine px_eff rfl (by rfl) (fun K hK => ?_)
  go_simp
  refine (kof_any lk _ H16.out.1 (HQ.out.kp0 (Kp.refl _ _).drew)).mono ?_
  rintro e zw1 ⟨rfl, hk⟩
  simp only []
  have HK1 : Hid (Kp0 w.drew zw1) := Lib.hid (HK0.out.tr hk)
  clear hk
  refine hK (fun w' : World => Kp0 w.drew w') _ _ (fun x h => h) HK1.out ?_
  clear hK K
  rw [← HKS.out]
  refine px_quiet (v := .agg (stm ks lc z16 0).toArray) rfl (by rfl) (fun wq hwq => run_build_st wq _ _ 17 20 rfl (u32s ks) (bys lc) (by rw [u32s_len, HKL.out]) (by rw [bys_len, H16.out.2]) rfl rfl) rfl ?_
  try simp only [List.setIfInBounds_toArray, List.set_cons_zero, List.set_cons_succ]
  refine px_eff rfl (by rfl) (fun K hK => ?_)
  go_simp
  have HB : Hid (Blk (zw1.alloc (.cells (stm ks lc z16 0).toArray 47)) zw1.heap.size 47 (stm ks lc z16 0)) := Lib.hid (blk0 zw1 _ _)
  have HK2 : Hid (Kp0 w.drew (zw1.alloc (.cells (stm ks lc z16 0).toArray 47))) := Lib.hid (HK1.out.alloc _)
  have HSZ : Hid (w.heap.size ≤ zw1.heap.size) := Lib.hid HK1.out.size
  refine hK (fun w' : World => Kp0 w.drew w') _ _ (fun x h => h) HK2.out ?_
  clear hK K
  refine px_quiet (v := ?_) rfl (by rfl) (fun wq hwq => ?_) rfl ?_; rotate_left 1; (focus (go_simp; try (with_reducible rfl); done)); try simp only [List.setIfInBounds_toArray, List.set_cons_zero, List.set_cons_succ]
  refine px_quiet (v := ?_) rfl (by rfl) (fun wq hwq => ?_) rfl ?_; rotate_left 1; (focus (go_simp; try (with_reducible rfl); done)); try simp only [List.setIfInBounds_toArray, List.set_cons_zero, List.set_cons_succ]
  refine px_done ?_
  go_wp2
  go_ret2
  exact ⟨_, rfl, ⟨HB.out, HKL.out, H16.out.2, rfl⟩, HSZ.out, (Kp.refl _ w).drew.tr HK2.out⟩
set_option maxRecDepth 20000 in
set_option maxHeartbeats 4000000 in
theorem new_no (vk vc : Value) (lk lc : List UInt8) (w : World) (hk : Rd w vk (bys lk)) (hc : Rd w vc (bys lc)) (h16 : ¬ (lk.length = 16 ∧ lc.length = 16)) :
    Calls Tryd.prog 9 #[vk, vc] w fun e w' => e = .returned (.tuple #[.pointer none, .int .i64 2]) ∧ Kp0 w w' := by
  obtain ⟨ak, ck, rfl, _, _, _⟩ := hk.shapeB
  obtain ⟨ac, cc, rfl, _, _, _⟩ := hc.shapeB
  clear hk hc
  by_cases h1 : lk.length = 16
  · have h2 : lc.length ≠ 16 := fun e => h16 ⟨h1, e⟩
    have bk : ((lk.length : Int) != 16) = false := by rw [bne_eq_false_iff_eq]; omega
    have bc : ((lc.length : Int) != 16) = true := by rw [bne_iff_ne]; omega
    clear h1 h2 h16
    go_enter Tryd.func9, Tryd.ntmps9
    go_wp2
    go_ret2
    exact ⟨rfl, Kp.refl _ _⟩
  · have bk : ((lk.length : Int) != 16) = true := by rw [bne_iff_ne]; omega
    clear h1 h16
    go_enter Tryd.func9, Tryd.ntmps9
    go_wp2
    go_ret2
    exact ⟨rfl, Kp.refl _ _⟩
set_option maxRecDepth 20000 in
set_option maxHeartbeats 4000000 in
theorem blk_nil (b : List UInt8) (w : World) (hb : b.length = 16) :
    Calls Tryd.prog 10 #[.pointer none, .agg (bys b).toArray] w fun e w' => e = .returned (.agg (bys z16).toArray) ∧ Kp0 w w' := by
  have HB := Lib.hid hb
  clear hb
  go_enter Tryd.func10, Tryd.ntmps10
  go_upto_region 1 with (fail)
  have HR := Lib.hid (rows2 w 23 (bys b) 23 (bys z16))
  change Code.wp _ _ _ _ ((w.alloc (.cells (bys b).toArray 23)).alloc (.cells (bys z16).toArray 23))
  generalize ((w.alloc (.cells (bys b).toArray 23)).alloc (.cells (bys z16).toArray 23)) = w1 at HR
  have hz : ∀ wq : World, (Instr.build 23 #[]).run Tryd.prog wq = .ok (.agg (bys z16).toArray) wq := fun wq => by kernel_rfl
  go_wp2_with (refine wl_store_blk rfl 23 (.tmp 4) (.tmp 7) rfl (w.heap.size + 1) _ (bys z16) (bys z16) rfl rfl (HR.out.blk 1 rfl rfl) (info16 (l := z16) rfl) rfl (bys_onesV _) ?_
               intro w8 hA8 hK8
               have HA8 := Lib.hid hA8
               have HK8 : Hid (Kp0 w w8) := Lib.hid (HR.out.kp.trans hK8 (fun _ _ h => h) (fun i hi e => by omega))
               clear hA8 hK8)
  refine ret_blk 4 23 23 (w.heap.size + 1) (bys z16) _ rfl rfl HA8.out Tryd.underlying23 rfl (info16 (l := z16) rfl) rfl ?_
  exact ⟨rfl, HK8.out⟩
set_option maxRecDepth 20000 in
set_option maxHeartbeats 4000000 in
theorem turn_nil (v : Value) (w : World) :
    Calls Tryd.prog 11 #[.pointer none, v] w fun e w' => e = .returned (.slice none 0 0) ∧ Kp0 w w' := by
  go_enter Tryd.func11, Tryd.ntmps11
  go_wp2
  go_ret
  exact ⟨rfl, Kp.refl _ _⟩
end Go.Proofs.YtomlednobmaaeaaDoor
