/- The laws of package cipher: fit, and the first one. -/
import Derived.Test.YtomlednobmaaeaaDoorRfJ
import Derived.Test.YtomlednobmaaeaaDoorAes0
import Derived.ChangeKeysEq
namespace Go.Proofs.YtomlednobmaaeaaDoor
open Go Go.RowKit
theorem info_u8 : ∃ i, Tryd.prog.info? 5 = some i ∧ Tryd.prog.cellsOf 5 = 1 := by
  have : (Tryd.prog.info? 5).isSome = true := by kernel_rfl
  obtain ⟨i, hi⟩ := Option.isSome_iff_exists.1 this
  exact ⟨i, hi, by kernel_rfl⟩
theorem eq_items (l : List UInt8) (w : World) (d : Nat) : ∀ is : List Nat, (∀ i ∈ is, i < l.length) → (Op.eqItems (d + 1) 5 1 (bys l).toArray (bys l).toArray is).run Tryd.prog w = .ok true w
  | [], _ => by simp [Op.eqItems]
  | i :: is, h => by
    have hi : i < l.length := h i (by simp)
    have ha : (isAgg 5).run Tryd.prog w = .ok false w := by simp [isAgg, run_underlying Tryd.underlying5, go_sem]
    have hx : (bys l)[i]? = some (.int .u8 ((l[i]'hi).toNat : Int)) := bys_get l i hi
    have hp : (part 5 (bys l).toArray (i * 1)).run Tryd.prog w = .ok (.int .u8 ((l[i]'hi).toNat : Int)) w := by
      rw [Nat.mul_one]
      simp [part, ha, hx]
    have he := run_equalIn_int (P := Tryd.prog) w d 5 .u8 .u8 ((l[i]'hi).toNat : Int) ((l[i]'hi).toNat : Int) Tryd.underlying5
    rw [Op.eqItems]
    simp only [Sem.run_bind, hp, Result.andThen_ok, he, beq_self_eq_true, Bool.not_true, Bool.false_eq_true, if_false, if_true]
    exact eq_items l w d is (fun j hj => h j (by simp [hj]))
theorem eq16 {l : List UInt8} (hl : l.length = 16) (w : World) : (Op.equal 23 (.agg (bys l).toArray) (.agg (bys l).toArray)).run Tryd.prog w = .ok true w := by
  obtain ⟨i, hi, hc⟩ := info_u8
  have := run_equalIn_array (P := Tryd.prog) w 9999 (bys l).toArray (bys l).toArray Tryd.underlying23 hi
  rw [hc] at this
  show (Op.equalIn (9999 + 1) 23 _ _).run _ _ = _
  rw [this]
  exact eq_items l w 9998 _ (fun i hi => by rw [hl]; exact List.mem_range.1 hi)
theorem own16 {g n : Nat} : ∀ b, (Value.slice (some ⟨g, 0, none⟩) n n).ownBlock = some b → b = g := by
  intro b hb
  simp only [Value.ownBlock, Option.some.injEq] at hb
  exact hb.symm
theorem kb_small (ks : List (BitVec 32)) (c : List UInt8) (n : Nat) (h : n < 16) : kb ks c n = (aesK ks c).getD n 0 := by
  unfold kb
  rw [show n / 16 = 0 by omega, show n % 16 = n by omega]
  rfl
theorem fit_bytes : (xorB (kyW (colsW z16)) z16 0 z16)[0]? = some 102 ∧ (xorB (kyW (colsW z16)) z16 0 z16)[15]? = some 46 := by
  constructor
  · rw [xorB_get (x := 0) _ _ _ (by rfl), kb_small _ _ _ (by omega), aes0]
    rfl
  · rw [xorB_get (x := 0) _ _ _ (by rfl), kb_small _ _ _ (by omega), aes0]
    rfl
theorem xorB_len' (ks : List (BitVec 32)) (c : List UInt8) (p : Nat) {l : List UInt8} {n : Nat} (h : l.length = n) : (xorB ks c p l).length = n := by rw [xorB_len, h]
attribute [local irreducible] kyW colsW aesK kb xorB
set_option maxRecDepth 20000 in
set_option maxHeartbeats 4000000 in
theorem fit6_any (w : World) (hq : Sqr w) : Calls Tryd.prog 8 #[] w fun e w' => e = .returned (.bool true) ∧ Kp0 w w' := by
  have hmk : ∀ u : World, (Instr.makeSlice 22 (.int .i64 16) (.int .i64 16)).run Tryd.prog u = .ok (.slice (some ⟨u.heap.size, 0, none⟩) 16 16) (u.alloc (.cells (bys (zs 16)).toArray 5)) := mkB 16 (by omega)
  have HQ := Lib.hid hq
  have HW0 := Lib.hid hq.lt
  clear hq
  go_enter Tryd.func8, Tryd.ntmps8
  go_upto_region 1 with (fail)
  go_cut [1, 2] (fun p q wx => ∃ g : Nat, p = .pointer (some ⟨g, 0, none⟩) ∧ q = .int .i64 0 ∧ Stm wx g (kyW (colsW z16)) z16 z16 0 ∧ w.heap.size ≤ g ∧ Kp0 w wx)
  case first =>
    refine wp_region_px 8 [] (fun _ => True) (.two 0 (.eff 1 (.eff 2 (.quiet 3 (.quiet 4 (.quiet 5 (.quiet 6 (.quiet 7 .done))))))) 1 (.eff 0 (.eff 2 (.quiet 3 (.quiet 4 (.quiet 5 (.quiet 6 (.quiet 7 .done)))))))) (by kernel_rfl) (by kernel_rfl) (by kernel_rfl) (by kernel_rfl) (fun _ d _ _ _ h => by cases d <;> exact h) trivial ?_
    refine ⟨px_one rfl (by rfl) (fun K hK => ?_), px_one rfl (by rfl) (fun K hK => ?_)⟩
    · go_simp
      refine hK (fun _ => True) _ _ (fun _ h => h) trivial ?_
      clear hK K
      refine px_eff rfl (by rfl) (fun K hK => ?_)
      go_simp
      have HW : Hid (Kp0 w ((w.alloc (.cells (bys (zs 16)).toArray 5)).alloc (.cells (bys (zs 16)).toArray 5))) := Lib.hid (((Kp.refl _ w).alloc _).alloc _)
      have HB1 : Hid (Blk ((w.alloc (.cells (bys (zs 16)).toArray 5)).alloc (.cells (bys (zs 16)).toArray 5)) w.heap.size 5 (bys z16)) := Lib.hid ((blk0 w _ (bys z16)).kp0 ((Kp.refl _ _).alloc _))
      have HB2 : Hid (Blk ((w.alloc (.cells (bys (zs 16)).toArray 5)).alloc (.cells (bys (zs 16)).toArray 5)) (w.heap.size + 1) 5 (bys z16)) := Lib.hid (by
        have := blk0 (w.alloc (.cells (bys (zs 16)).toArray 5)) 5 (bys z16)
        rw [show (w.alloc (.cells (bys (zs 16)).toArray 5)).heap.size = w.heap.size + 1 by simp] at this
        exact this)
      refine hK (fun _ => True) _ _ (fun _ h => h) trivial ?_
      clear hK K
      refine px_eff rfl (by rfl) (fun K hK => ?_)
      go_simp
      generalize ((w.alloc (.cells (bys (zs 16)).toArray 5)).alloc (.cells (bys (zs 16)).toArray 5)) = w1 at HW HB1 HB2 ⊢
      replace HB1 := Lib.hid HB1.out.drew'
      replace HB2 := Lib.hid HB2.out.drew'
      replace HW := Lib.hid HW.out.drew
      refine (new_any _ _ z16 z16 _ (blk_rd (n := 16) (HB1.out) rfl (by omega)) (blk_rd (n := 16) (HB2.out) rfl (by omega)) (HQ.out.kp0 HW.out) ⟨rfl, rfl⟩).mono ?_
      rintro e w2 ⟨g, rfl, hs, hg, hk⟩
      simp only []
      have HS := Lib.hid hs
      have HG := Lib.hid (Nat.le_trans HW.out.size hg)
      have HK := Lib.hid (HW.out.tr hk)
      clear hs hg hk
      refine hK (fun _ => True) _ _ (fun _ h => h) trivial ?_
      clear hK K
      repeat (refine px_quiet (v := ?_) rfl (by rfl) (fun wq hwq => ?_) rfl ?_; rotate_left 1; (focus (go_simp; try (with_reducible rfl); done)); try simp only [List.setIfInBounds_toArray, List.set_cons_zero, List.set_cons_succ])
      refine px_done ?_
      go_wp2
      go_meet
      exact ⟨g, rfl, rfl, HS.out, HG.out, HK.out⟩
    · go_simp
      refine hK (fun _ => True) _ _ (fun _ h => h) trivial ?_
      clear hK K
      refine px_eff rfl (by rfl) (fun K hK => ?_)
      go_simp
      have HW : Hid (Kp0 w ((w.alloc (.cells (bys (zs 16)).toArray 5)).alloc (.cells (bys (zs 16)).toArray 5))) := Lib.hid (((Kp.refl _ w).alloc _).alloc _)
      have HB1 : Hid (Blk ((w.alloc (.cells (bys (zs 16)).toArray 5)).alloc (.cells (bys (zs 16)).toArray 5)) w.heap.size 5 (bys z16)) := Lib.hid ((blk0 w _ (bys z16)).kp0 ((Kp.refl _ _).alloc _))
      have HB2 : Hid (Blk ((w.alloc (.cells (bys (zs 16)).toArray 5)).alloc (.cells (bys (zs 16)).toArray 5)) (w.heap.size + 1) 5 (bys z16)) := Lib.hid (by
        have := blk0 (w.alloc (.cells (bys (zs 16)).toArray 5)) 5 (bys z16)
        rw [show (w.alloc (.cells (bys (zs 16)).toArray 5)).heap.size = w.heap.size + 1 by simp] at this
        exact this)
      refine hK (fun _ => True) _ _ (fun _ h => h) trivial ?_
      clear hK K
      refine px_eff rfl (by rfl) (fun K hK => ?_)
      go_simp
      generalize ((w.alloc (.cells (bys (zs 16)).toArray 5)).alloc (.cells (bys (zs 16)).toArray 5)) = w1 at HW HB1 HB2 ⊢
      replace HB1 := Lib.hid HB1.out.drew'
      replace HB2 := Lib.hid HB2.out.drew'
      replace HW := Lib.hid HW.out.drew
      refine (new_any _ _ z16 z16 _ (blk_rd (n := 16) (HB2.out) rfl (by omega)) (blk_rd (n := 16) (HB1.out) rfl (by omega)) (HQ.out.kp0 HW.out) ⟨rfl, rfl⟩).mono ?_
      rintro e w2 ⟨g, rfl, hs, hg, hk⟩
      simp only []
      have HS := Lib.hid hs
      have HG := Lib.hid (Nat.le_trans HW.out.size hg)
      have HK := Lib.hid (HW.out.tr hk)
      clear hs hg hk
      refine hK (fun _ => True) _ _ (fun _ h => h) trivial ?_
      clear hK K
      repeat (refine px_quiet (v := ?_) rfl (by rfl) (fun wq hwq => ?_) rfl ?_; rotate_left 1; (focus (go_simp; try (with_reducible rfl); done)); try simp only [List.setIfInBounds_toArray, List.set_cons_zero, List.set_cons_succ])
      refine px_done ?_
      go_wp2
      go_meet
      exact ⟨g, rfl, rfl, HS.out, HG.out, HK.out⟩
  case rest =>
    obtain ⟨g, rfl, rfl, hs, hg, hk⟩ := hcut
    have HS := Lib.hid hs
    have HG := Lib.hid hg
    have HK := Lib.hid hk
    have HG0 : Hid (g ≠ 0) := Lib.hid (by have := HW0.out; omega)
    clear hs hg hk
    have HA0 := Lib.hid (At.start HS.out)
    go_upto_region 3 with (go_at_call 11
                           have HBZ : Hid (Blk (wc.alloc (.cells (bys (zs 16)).toArray 5)) wc.heap.size 5 (bys z16)) := Lib.hid (blk0 wc _ (bys z16))
                           have HKZ : Hid (Kp0 wc (wc.alloc (.cells (bys (zs 16)).toArray 5))) := Lib.hid ((Kp.refl _ wc).alloc _)
                           refine (turn_any g _ z16 0 _ z16 _ (HA0.out.kp0 HKZ.out) (blk_rd (n := 16) HBZ.out rfl (by omega)) (fun b hb e => absurd HA0.out.lt (by rw [← e, own16 b hb]; exact Nat.lt_irrefl _)) ((HQ.out.kp0 HK.out).kp0 HKZ.out) HG0.out (by decide)).mono ?_
                           rintro e w3 ⟨h, rfl, hb, hh, _, hk⟩
                           have HB3 := Lib.hid hb
                           have HK3 : Hid (Kp0 w w3) := Lib.hid ((HK.out.tr HKZ.out).trans hk (fun _ _ h => h) (fun i hi e => by have := HG.out; omega))
                           clear hb hh hk)
    have hlen : z16.length = 16 := rfl
    rw [hlen]
    have hc0 := HB3.out.cellV 0 (bys_getV fit_bytes.1)
    have hc15 := HB3.out.cellV 15 (bys_getV fit_bytes.2)
    have e0 : (((102 : UInt8).toNat : Nat) : Int) = 102 := rfl
    have e15 : (((46 : UInt8).toNat : Nat) : Int) = 46 := rfl
    rw [e0] at hc0
    rw [e15] at hc15
    clear hmk hlen e0 e15
    go_wp2
    go_ret
    exact ⟨rfl, HK3.out⟩
end Go.Proofs.YtomlednobmaaeaaDoor
