/- The law's own helper: fit. -/
import Derived.Test.YtcnehbfcagghpaaLadM
namespace Go.Proofs.Ytcnehbfcagghpaa
open Go Go.RowKit
theorem allZ_true {l : List UInt8} (h : allZ l = true) (hl : l.length = 32) : l = List.replicate 32 0 := by
  refine List.eq_replicate_iff.2 ⟨hl, fun b hb => ?_⟩
  have := List.all_eq_true.1 h b hb
  simpa using this
theorem allZ_false {l : List UInt8} (h : l ≠ List.replicate 32 0) (hl : l.length = 32) : allZ l = false := by
  cases h2 : allZ l
  · rfl
  · exact absurd (allZ_true h2 hl) h
theorem allZ_zero : allZ (List.replicate 32 0) = true := by decide
/-- A text of bytes. -/
def tx (l : List UInt8) : ByteArray := ⟨l.toArray⟩
theorem tx_ne {a b : List UInt8} (h : a ≠ b) : tx a ≠ tx b := by
  intro e
  apply h
  have := congrArg (fun s : ByteArray => s.data.toList) e
  simpa [tx] using this
theorem tx_list (a : List UInt8) : (tx a).toList = a := ByteArray.toList_mk a
theorem tx_beq (a b : List UInt8) : ((tx a).toList == (tx b).toList) = (a == b) := by rw [tx_list, tx_list]
theorem cv_tx {w : World} {v : Value} {l : List UInt8} (h : Rd w v (bys l)) : (convert 22 9 v).run Try.prog w = .ok (.string (tx l)) w :=
  run_string_of 22 5 9 Try.underlying22 Try.underlying5 Try.underlying9 h
theorem pub4_yes (vk : Value) (lk : List UInt8) (w : World) (hk : Rd w vk (bys lk)) (hl : lk.length = 32) :
    Calls Try.prog 11 #[vk] w fun e w' => ∃ v, e = .returned (.tuple #[v, .int .i64 0]) ∧ Sl w w' v (mulB lk nineB) := by
  refine (pub4_any vk lk w hk).mono fun e w' ⟨v, l, n, he, hs, hi⟩ => ?_
  rw [if_pos ⟨hl, rfl⟩] at hi
  obtain ⟨rfl, rfl⟩ := hi
  exact ⟨v, he, hs⟩
theorem sha4_yes (vk vu : Value) (lk lu : List UInt8) (w : World) (hk : Rd w vk (bys lk)) (hu : Rd w vu (bys lu)) (hou : ∀ g, vu.ownBlock = some g → g < w.heap.size) (h1 : lk.length = 32) (h2 : lu.length = 32) (hz : allZ (mulB lk lu) = false) :
    Calls Try.prog 12 #[vk, vu] w fun e w' => ∃ v, e = .returned (.tuple #[v, .int .i64 0]) ∧ Sl w w' v (mulB lk lu) := by
  refine (sha4_any vk vu lk lu w hk hu hou).mono fun e w' ⟨v, l, n, he, hs, hi⟩ => ?_
  rw [if_pos ⟨h1, h2⟩, if_neg (by rw [hz]; simp)] at hi
  obtain ⟨rfl, rfl⟩ := hi
  exact ⟨v, he, hs⟩
theorem two_share (a b : List UInt8) (ha : a.length = 32) (hb : b.length = 32) : allZ (mulB a (mulB b nineB)) = false := allZ_false (mulB_base2 hb ha) (mulB_len _ _)
theorem mk32 (u : World) : (Instr.makeSlice 22 (.int .i64 32) (.int .i64 32)).run Try.prog u =
    .ok (.slice (some ⟨u.heap.size, 0, none⟩) 32 32) (u.alloc (.cells (bys z32).toArray 5)) := by
  obtain ⟨i0, hi, hz0, hz1, hz2⟩ := info_parts infoB
  have h := run_make (P := Try.prog) u 22 5 i0 (.int .u8 0) Try.underlying22 hi hz0 .i64 .i64 (32 : Int) (32 : Int) (by omega) (Int.le_refl _) (by rw [hz2]; omega) (by omega)
  have e : (32 : Int).toNat = 32 := by omega
  rw [e] at h
  rw [show (bys z32).toArray = madeCells #[.int .u8 0] 32 by kernel_rfl]
  simpa [hz1, Value.cells] using h
theorem Sl.rd {w w' : World} {v : Value} {l : List UInt8} (h : Sl w w' v l) : Rd w' v (bys l) := h.1
theorem Sl.own {w w' wx : World} {v : Value} {l : List UInt8} (h : Sl w w' v l) (hk : Kp0 w' wx) : ∀ g, v.ownBlock = some g → g < wx.heap.size := fun g hg => Nat.lt_of_lt_of_le (h.2.1 g hg) hk.size
theorem own_at {w : World} {g : Nat} (h : g < w.heap.size) : ∀ b, (Value.slice (some ⟨g, 0, none⟩) 32 32).ownBlock = some b → b < w.heap.size := by
  intro b hb
  simp only [Value.ownBlock, Option.some.injEq] at hb
  omega
theorem secA_len : secA.length = 32 := rfl
theorem secB_len : secB.length = 32 := rfl
set_option maxRecDepth 20000 in
set_option maxHeartbeats 4000000 in
theorem fit4_any (w : World) : Calls Try.prog 8 #[] w fun e w' => e = .returned (.bool true) ∧ Kp0 w w' := by
  have hmk := mk32
  go_enter Try.func8, Try.ntmps8
  go_upto_region 1 with (fail)
  go_cut [1, 2] (fun p q wx => ∃ g h : Nat, p = .slice (some ⟨g, 0, none⟩) 32 32 ∧ q = .slice (some ⟨h, 0, none⟩) 32 32 ∧ (g ≠ h ∧ w.heap.size ≤ h) ∧ Blk wx g 5 (bys z32) ∧ Blk wx h 5 (bys z32) ∧ Kp0 w wx)
  case first =>
    refine wp_region_px 4 [] (fun _ => True) (.two 0 (.quiet 2 (.eff 1 (.quiet 3 .done))) 1 (.eff 0 (.quiet 2 (.quiet 3 .done)))) (by kernel_rfl) (by kernel_rfl) (by kernel_rfl) (by kernel_rfl) (fun _ d _ _ _ h => by cases d <;> exact h) trivial ?_
    refine ⟨px_one rfl (by rfl) (fun K hK => ?_), px_one rfl (by rfl) (fun K hK => ?_)⟩
    · go_simp
      refine hK (fun _ => True) _ _ (fun _ h => h) trivial ?_
      clear hK K
      repeat (first
        | (refine px_quiet (v := ?_) rfl (by rfl) (fun wq hwq => ?_) rfl ?_; rotate_left 1; (focus (go_simp; try (with_reducible rfl); done)); try simp only [List.setIfInBounds_toArray, List.set_cons_zero, List.set_cons_succ])
        | (refine px_skip rfl (by rfl) rfl ?_; try simp only [List.setIfInBounds_toArray, List.set_cons_zero, List.set_cons_succ]))
      refine px_eff rfl (by rfl) (fun K hK => ?_)
      go_simp
      refine hK (fun _ => True) _ _ (fun _ h => h) trivial ?_
      clear hK K
      repeat (first
        | (refine px_quiet (v := ?_) rfl (by rfl) (fun wq hwq => ?_) rfl ?_; rotate_left 1; (focus (go_simp; try (with_reducible rfl); done)); try simp only [List.setIfInBounds_toArray, List.set_cons_zero, List.set_cons_succ])
        | (refine px_skip rfl (by rfl) rfl ?_; try simp only [List.setIfInBounds_toArray, List.set_cons_zero, List.set_cons_succ]))
      refine px_done ?_
      go_wp2
      go_meet
      exact ⟨w.heap.size, w.heap.size + 1, rfl, rfl, ⟨by omega, by omega⟩, (blk0 w.drew _ (bys z32)).kp0 ((Kp.refl _ _).alloc _), blk_n (w := w.drew.alloc (.cells (bys z32).toArray 5)) (by simp), (((Kp.refl _ w).drew.alloc _).alloc _)⟩
    · go_simp
      refine hK (fun _ => True) _ _ (fun _ h => h) trivial ?_
      clear hK K
      refine px_eff rfl (by rfl) (fun K hK => ?_)
      go_simp
      refine hK (fun _ => True) _ _ (fun _ h => h) trivial ?_
      clear hK K
      repeat (first
        | (refine px_quiet (v := ?_) rfl (by rfl) (fun wq hwq => ?_) rfl ?_; rotate_left 1; (focus (go_simp; try (with_reducible rfl); done)); try simp only [List.setIfInBounds_toArray, List.set_cons_zero, List.set_cons_succ])
        | (refine px_skip rfl (by rfl) rfl ?_; try simp only [List.setIfInBounds_toArray, List.set_cons_zero, List.set_cons_succ]))
      refine px_done ?_
      go_wp2
      go_meet
      exact ⟨w.heap.size + 1, w.heap.size, rfl, rfl, ⟨by omega, by omega⟩, blk_n (w := w.drew.alloc (.cells (bys z32).toArray 5)) (by simp), (blk0 w.drew _ (bys z32)).kp0 ((Kp.refl _ _).alloc _), (((Kp.refl _ w).drew.alloc _).alloc _)⟩
  case rest =>
    obtain ⟨g, h, rfl, rfl, ⟨hgh, hwh⟩, hb1, hb2, hkw⟩ := hcut
    have HB1 := Lib.hid hb1
    have HB2 := Lib.hid hb2
    have HKW := Lib.hid hkw
    clear hb1 hb2 hkw hmk
    have hc3 := HB2.out.cellB 3 (by decide)
    have hf3 := blk_frozen HB2.out 3
    go_upto_region 3 with (fail)
    have HB3 : Hid (Blk (wc.setCell ⟨h, 3, none⟩ (.int .u8 7)) h 5 (bys secB)) := Lib.hid (HB2.out.setB 3 7)
    have hk3 := (Kp.refl (fun b => b = h) wc).setCell (p := ⟨h, 3, none⟩) (fun _ => rfl) (.int .u8 7)
    have HB4 : Hid (Blk (wc.setCell ⟨h, 3, none⟩ (.int .u8 7)) g 5 (bys secA)) := Lib.hid (HB1.out.keep hk3 (fun e => hgh e))
    have HK3 : Hid (Kp0 w (wc.setCell ⟨h, 3, none⟩ (.int .u8 7))) := Lib.hid (HKW.out.trans hk3 (fun _ _ h => h) (fun i hi e => by omega))
    clear hk3 hc3 hf3 HB1 HB2 HKW
    generalize (wc.setCell ⟨h, 3, none⟩ (.int .u8 7)) = w1 at HB3 HB4 HK3 ⊢
    go_wp2_with fail
    refine (pub4_yes _ secA _ (blk_rd32 HB4.out rfl) secA_len).mono ?_
    rintro e w2 ⟨vp, rfl, hs⟩
    have HP := Lib.hid hs
    clear hs
    go_wp2_with fail
    refine (pub4_yes _ secB _ ((blk_rd32 HB3.out rfl).keep0 HP.out.2.2) secB_len).mono ?_
    rintro e w3 ⟨vq, rfl, hs⟩
    have HQ := Lib.hid hs
    clear hs
    go_wp2_with fail
    refine (sha4_yes _ _ secA (mulB secB nineB) _ ((blk_rd32 HB4.out rfl).keep0 (HP.out.2.2.tr HQ.out.2.2)) HQ.out.1 HQ.out.2.1 secA_len (mulB_len _ _) (two_share secA secB secA_len secB_len)).mono ?_
    rintro e w4 ⟨vs, rfl, hs⟩
    have HS := Lib.hid hs
    clear hs
    go_wp2_with fail
    refine (sha4_yes _ _ secB (mulB secA nineB) _ ((blk_rd32 HB3.out rfl).keep0 ((HP.out.2.2.tr HQ.out.2.2).tr HS.out.2.2)) (HP.out.1.keep0 (HQ.out.2.2.tr HS.out.2.2)) (HP.out.own (HQ.out.2.2.tr HS.out.2.2)) secB_len (mulB_len _ _) (two_share secB secA secB_len secA_len)).mono ?_
    rintro e w5 ⟨vt, rfl, hs⟩
    have HT := Lib.hid hs
    clear hs
    obtain ⟨so, sc, hvs, _, _, _⟩ := HS.out.1.shapeB
    rw [mulB_len] at hvs
    obtain ⟨x, hx⟩ : ∃ x, x = tx (mulB secA (mulB secB nineB)) := ⟨_, rfl⟩
    obtain ⟨p, hp⟩ : ∃ x, x = tx (mulB secA nineB) := ⟨_, rfl⟩
    obtain ⟨q, hq⟩ : ∃ x, x = tx (mulB secB nineB) := ⟨_, rfl⟩
    have cs := cv_tx (HS.out.1.keep0 HT.out.2.2)
    have ct := cv_tx HT.out.1
    have cp := cv_tx (HP.out.1.keep0 ((HQ.out.2.2.tr HS.out.2.2).tr HT.out.2.2))
    have cq := cv_tx (HQ.out.1.keep0 (HS.out.2.2.tr HT.out.2.2))
    rw [mulB_swap nineB secA_len secB_len, ← hx] at ct
    rw [← hx] at cs
    rw [← hp] at cp
    rw [← hq] at cq
    have hpq : (p.toList == q.toList) = false := by rw [hp, hq, tx_beq]; exact beq_eq_false_iff_ne.2 fit_apart
    have HF : Hid (Kp0 w w5) := Lib.hid ((((HK3.out.tr HP.out.2.2).tr HQ.out.2.2).tr HS.out.2.2).tr HT.out.2.2)
    clear hx hp hq HS HT HP HQ HB3 HB4 HK3
    subst hvs
    go_wp2
    go_ret
    exact ⟨rfl, HF.out⟩
end Go.Proofs.Ytcnehbfcagghpaa
