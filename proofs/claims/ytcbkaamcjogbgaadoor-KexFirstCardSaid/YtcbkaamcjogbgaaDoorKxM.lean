/- The law KexAgrees: its walk. -/
import Derived.Test.YtcbkaamcjogbgaaDoorKa
import Derived.Test.YtcbkaamcjogbgaaDoorK8
namespace Go.Proofs.YtcbkaamcjogbgaaDoor
open Go Go.RowKit
theorem wl_quiet_want {P : Program} {ops : Array Oper} {rest : List Oper} {op : Oper} {a : Act} {w : World} {Q : Exit → Act → World → Prop} {v : Value} (hw : Region.wanted op (yielded ops a.tmps) = true)
    (hv : (execOp a.eval op).run P w = .ok (.value v) w) (h : wpList P ops Q rest (a.put op.dst v) w) : wpList P ops Q (op :: rest) a w := by
  refine wpList_step fun K hK => ?_
  rw [if_pos hw]
  unfold Oper.wp
  rw [hv]
  exact hK _ _ h
set_option maxRecDepth 20000 in
set_option maxHeartbeats 4000000 in
theorem kagrees_walk (va vb : List Value) (la lb : List (List ByteArray)) (w : World) (hq : Sqd w) (hc : Cub w) (hg : Gm w) (ha : Rows8 w va la) (hb : Rows8 w vb lb) (hxa : ∀ l ∈ la, ∀ x ∈ l, x.size ≤ 140737488351232) (hxb : ∀ l ∈ lb, ∀ x ∈ l, x.size ≤ 140737488351232) :
    Calls Tryd.prog 4 #[.agg va.toArray, .agg vb.toArray] w fun e w' => e = .returned (.bool true) ∧ Kp0 w w' := by
  have HQ := Lib.hid hq
  have HC := Lib.hid hc
  have HG := Lib.hid hg
  have HA := Lib.hid ha
  have HB := Lib.hid hb
  have HXA := Lib.hid hxa
  have HXB := Lib.hid hxb
  have HIA := Lib.hid (info8 ha.1)
  have HIB := Lib.hid (info8 hb.1)
  clear hq hc hg ha hb hxa hxb
  go_enter Tryd.func4, Tryd.ntmps4
  go_upto_region 1 with (fail)
  have HB1 : Hid (Bks w ((w.alloc (.cells va.toArray 23)).alloc (.cells vb.toArray 23)) [(w.heap.size, 23, va), (w.heap.size + 1, 23, vb)]) :=
    Lib.hid (((Bks.nil w).push 23 va rfl).push 23 vb (g := w.heap.size + 1) (by simp))
  generalize (w.alloc (.cells va.toArray 23)).alloc (.cells vb.toArray 23) = w1 at HB1 ⊢
  obtain ⟨ga, hga⟩ : ∃ x, x = w.heap.size := ⟨_, rfl⟩
  obtain ⟨gb, hgb⟩ : ∃ x, x = w.heap.size + 1 := ⟨_, rfl⟩
  rw [← hgb, ← hga] at HB1
  rw [← hgb, ← hga]
  clear hga hgb
  go_upto_region 3 with (go_at_call 9; refine (fit_any _ (HQ.out.kp0 HB1.out.kp) (HC.out.kp0 HB1.out.kp) (HG.out.keep HB1.out.kp (fun h => h))).mono ?_; rintro e w2 ⟨rfl, hk⟩; have HB2 := Lib.hid (HB1.out.kp0 hk); clear hk HB1)
  cases hla : lightS la
  · have HLA := Lib.hid hla
    clear hla
    go_wp2_with (first
      | (refine wl_load_blk rfl 23 (.tmp 2) rfl ga 23 va rfl (HB2.out.at 0 rfl) _ Tryd.underlying23 rfl HIA.out ?_)
      | (go_at_call 10; refine (light_any va la _ (HA.out.kp0 HB2.out.kp) HXA.out).mono ?_; rw [HLA.out]; rintro e w3 ⟨rfl, hk⟩; have HK3 := Lib.hid (HB2.out.kp.tr hk); clear hk))
    go_ret
    exact ⟨rfl, HK3.out⟩
  · have HLA := Lib.hid hla
    clear hla
    cases hlb : lightS lb
    · have HLB := Lib.hid hlb
      clear hlb
      go_wp2_with (first
        | (refine wl_load_blk rfl 23 (.tmp 2) rfl ga 23 va rfl (HB2.out.at 0 rfl) _ Tryd.underlying23 rfl HIA.out ?_)
        | (refine wl_quiet_want (v := .agg vb.toArray) (by rfl) (run_load_blk 23 (.tmp 3) rfl gb 23 vb rfl (HB3.out.at 1 rfl) _ Tryd.underlying23 rfl HIB.out) ?_)
        | (go_at_call 10; refine (light_any va la _ (HA.out.kp0 HB2.out.kp) HXA.out).mono ?_; rw [HLA.out]; rintro e w3 ⟨rfl, hk⟩; have HB3 := Lib.hid (HB2.out.kp0 hk); clear hk HB2)
        | (go_at_call 10; refine (light_any vb lb _ (HB.out.kp0 HB3.out.kp) HXB.out).mono ?_; rw [HLB.out]; rintro e w4 ⟨rfl, hk⟩; have HK4 := Lib.hid (HB3.out.kp.tr hk); clear hk))
      go_ret
      exact ⟨rfl, HK4.out⟩
    · have HLB := Lib.hid hlb
      clear hlb
      cases hr : agreeK la lb 8
      · have HR := Lib.hid (agreeR_no hr)
        have HR8 := Lib.hid hr
        clear hr
        go_wp2_with (first
          | (refine wl_load_blk rfl 23 (.tmp 2) rfl ga 23 va rfl (HB2.out.at 0 rfl) _ Tryd.underlying23 rfl HIA.out ?_)
          | (refine wl_quiet_want (v := .agg vb.toArray) (by rfl) (run_load_blk 23 (.tmp 3) rfl gb 23 vb rfl (HB3.out.at 1 rfl) _ Tryd.underlying23 rfl HIB.out) ?_)
          | (go_at_call 10; refine (light_any va la _ (HA.out.kp0 HB2.out.kp) HXA.out).mono ?_; rw [HLA.out]; rintro e w3 ⟨rfl, hk⟩; have HB3 := Lib.hid (HB2.out.kp0 hk); clear hk HB2)
          | (go_at_call 10; refine (light_any vb lb _ (HB.out.kp0 HB3.out.kp) HXB.out).mono ?_; rw [HLB.out]; rintro e w4 ⟨rfl, hk⟩; have HB4 := Lib.hid (HB3.out.kp0 hk); clear hk HB3)
          | (refine wl_load_blk rfl 23 (.tmp 2) rfl ga 23 va rfl (HB4.out.at 0 rfl) _ Tryd.underlying23 rfl HIA.out ?_)
          | (refine wl_load_blk rfl 23 (.tmp 3) rfl gb 23 vb rfl (HB4.out.at 1 rfl) _ Tryd.underlying23 rfl HIB.out ?_)
          | (go_at_call 16; refine (agree_any va vb la lb _ (HA.out.kp0 HB4.out.kp) (HB.out.kp0 HB4.out.kp)).mono ?_; rw [HR.out]; rintro e w5 ⟨rfl, hk⟩; have HB5 := Lib.hid (HB4.out.kp0 hk); clear hk HB4)
          | (refine wl_load_blk rfl 23 (.tmp 2) rfl ga 23 va rfl (HB5.out.at 0 rfl) _ Tryd.underlying23 rfl HIA.out ?_)
          | (refine wl_load_blk rfl 23 (.tmp 3) rfl gb 23 vb rfl (HB5.out.at 1 rfl) _ Tryd.underlying23 rfl HIB.out ?_)
          | (go_at_call 17; refine (refAgree_any va vb la lb _ (HA.out.kp0 HB5.out.kp) (HB.out.kp0 HB5.out.kp)).mono ?_; rw [HR8.out]; rintro e w6 ⟨rfl, hk⟩; have HK6 := Lib.hid (HB5.out.kp.tr hk); clear hk HB5))
        go_ret
        exact ⟨rfl, HK6.out⟩
      · have HR := Lib.hid (agreeR_yes hr)
        have HR8 := Lib.hid hr
        clear hr
        go_wp2_with (first
          | (refine wl_load_blk rfl 23 (.tmp 2) rfl ga 23 va rfl (HB2.out.at 0 rfl) _ Tryd.underlying23 rfl HIA.out ?_)
          | (refine wl_quiet_want (v := .agg vb.toArray) (by rfl) (run_load_blk 23 (.tmp 3) rfl gb 23 vb rfl (HB3.out.at 1 rfl) _ Tryd.underlying23 rfl HIB.out) ?_)
          | (go_at_call 10; refine (light_any va la _ (HA.out.kp0 HB2.out.kp) HXA.out).mono ?_; rw [HLA.out]; rintro e w3 ⟨rfl, hk⟩; have HB3 := Lib.hid (HB2.out.kp0 hk); clear hk HB2)
          | (go_at_call 10; refine (light_any vb lb _ (HB.out.kp0 HB3.out.kp) HXB.out).mono ?_; rw [HLB.out]; rintro e w4 ⟨rfl, hk⟩; have HB4 := Lib.hid (HB3.out.kp0 hk); clear hk HB3)
          | (refine wl_load_blk rfl 23 (.tmp 2) rfl ga 23 va rfl (HB4.out.at 0 rfl) _ Tryd.underlying23 rfl HIA.out ?_)
          | (refine wl_load_blk rfl 23 (.tmp 3) rfl gb 23 vb rfl (HB4.out.at 1 rfl) _ Tryd.underlying23 rfl HIB.out ?_)
          | (go_at_call 16; refine (agree_any va vb la lb _ (HA.out.kp0 HB4.out.kp) (HB.out.kp0 HB4.out.kp)).mono ?_; rw [HR.out]; rintro e w5 ⟨rfl, hk⟩; have HB5 := Lib.hid (HB4.out.kp0 hk); clear hk HB4)
          | (refine wl_load_blk rfl 23 (.tmp 2) rfl ga 23 va rfl (HB5.out.at 0 rfl) _ Tryd.underlying23 rfl HIA.out ?_)
          | (refine wl_load_blk rfl 23 (.tmp 3) rfl gb 23 vb rfl (HB5.out.at 1 rfl) _ Tryd.underlying23 rfl HIB.out ?_)
          | (go_at_call 17; refine (refAgree_any va vb la lb _ (HA.out.kp0 HB5.out.kp) (HB.out.kp0 HB5.out.kp)).mono ?_; rw [HR8.out]; rintro e w6 ⟨rfl, hk⟩; have HK6 := Lib.hid (HB5.out.kp.tr hk); clear hk HB5))
        go_ret
        exact ⟨rfl, HK6.out⟩
end Go.Proofs.YtcbkaamcjogbgaaDoor
