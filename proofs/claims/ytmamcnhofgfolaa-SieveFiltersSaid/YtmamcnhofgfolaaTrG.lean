/- The reference of layer 14: the same node in a list. -/
import Derived.Test.YtmamcnhofgfolaaTrF
namespace Go.Proofs.Ytmamcnhofgfolaa
open Go Go.RowKit
def keyG (d : PD) (n : PN) : List (List UInt8) := (keyT d.ky n.ks).getD []
def isSame (d : PD) (n x : PN) : Bool := x.nm == n.nm && (cmpT (keyG d x) (keyG d n) == 0)
def sameT (d : PD) (l : List PN) (n : PN) : Option Nat := l.findIdx? (isSame d n)
set_option maxRecDepth 20000 in
set_option maxHeartbeats 4000000 in
theorem same_any {F G H : Nat → Prop} (d : PD) (ns : List PN) (n : PN) (da db dc lv v : Value) (w : World) (hd : DfR F w d da db dc) (hn : RowN G w lv ns) (hx : RowN H w v n.ks) (hl : d.ky.length ≤ 1000000) :
    Calls Try.prog 31 #[DefA d da db dc, lv, NodA n v] w fun e w' => e = .returned (.int .i64 (plI (sameT d ns n))) ∧ Kp0 w w' := by
  have HD := Lib.hid hd
  have HN := Lib.hid hn
  have HX := Lib.hid hx
  have HL := Lib.hid hl
  obtain ⟨ao, ca, rfl, _, _, _⟩ := hn.shape
  clear hd hn hx hl
  unfold DefA NodA
  go_enter Try.func31, Try.ntmps31
  go_upto_region 1 with (fail)
  have HB : Hid (Bks w ((w.alloc (.cells #[.string (S d.nm), .int .i64 d.kd, .int .i64 d.ty, da, .bool d.mu, db, dc] 35)).alloc (.cells #[.string (S n.nm), .string (S n.vl), v] 40)) [(w.heap.size, 35, dvl d da db dc), (w.heap.size + 1, 40, nvl n v)]) :=
    Lib.hid (((Bks.nil w).push 35 (dvl d da db dc) rfl).push 40 (nvl n v) (g := w.heap.size + 1) (by simp))
  generalize (w.alloc (.cells #[.string (S d.nm), .int .i64 d.kd, .int .i64 d.ty, da, .bool d.mu, db, dc] 35)).alloc (.cells #[.string (S n.nm), .string (S n.vl), v] 40) = w1 at HB ⊢
  obtain ⟨g3, hg3⟩ : ∃ x, x = w.heap.size := ⟨_, rfl⟩
  obtain ⟨g5, hg5⟩ : ∃ x, x = w.heap.size + 1 := ⟨_, rfl⟩
  rw [← hg5, ← hg3] at HB
  rw [← hg5, ← hg3]
  clear hg3 hg5
  have HKW := Lib.hid HB.out.kp
  have HD := Lib.hid (HD.out.kp0 HKW.out)
  have HN := Lib.hid (HN.out.kp0 HKW.out)
  have HX := Lib.hid (HX.out.kp0 HKW.out)
  have T0 : Hid True := Lib.hid trivial
  go_upto_region 2 with (first
    | (clear T0; refine wl_load_blk rfl 35 (.tmp 3) rfl g3 _ (dvl d da db dc) rfl (HB.out.at 0 rfl) _ Try.underlying35 rfl infoDf ?_; have T1 : Hid True := Lib.hid trivial)
    | (clear T1; refine wl_load_blk rfl 40 (.tmp 5) rfl g5 _ (nvl n v) rfl (HB.out.at 1 rfl) _ Try.underlying40 rfl infoNd ?_)
    | (go_at_call 30
       refine (key_any d n da db dc v _ HD.out HX.out HL.out).mono ?_
       rintro e w2 ⟨ha, hk⟩
       obtain ⟨kv, rfl, hrk⟩ := ha.get
       have HR := Lib.hid hrk
       have HK2 := Lib.hid hk
       clear ha hrk hk))
  go_wp2
  go_loopw [9] (fun i wr => ∃ k : Nat, i = .int .i64 k ∧ k ≤ ns.length ∧ Hid (NoneTo (isSame d n) ns k) ∧ Kp0 w2 wr) (fun i _ => ns.length - (intOf i).toNat)
  case atStart => exact ⟨0, rfl, Nat.zero_le _, Lib.hid NoneTo.zero, Kp.refl _ _⟩
  case round =>
    obtain ⟨k, rfl, hk, HF, hkp⟩ := hrel
    have HK := Lib.hid hkp
    clear hkp
    by_cases h : k < ns.length
    · have i1 : (k : Int) < (ns.length : Int) := by omega
      obtain ⟨b1, o1, cap1, kv2, e1, _, _, D0, D1, D2, hxv, _, _⟩ := (HN.out.kp0 HK2.out).at k h
      simp only [Value.slice.injEq] at e1
      obtain ⟨rfl, _, rfl⟩ := e1
      have D0 := Lib.hid D0
      have D1 := Lib.hid D1
      have D2 := Lib.hid D2
      have HXV := Lib.hid hxv
      have HSX : Hid (isSame d n (ns[k]'h) = true → plI (sameT d ns n) = (k : Int)) := Lib.hid (fun e => by unfold sameT; rw [HF.out.hit h e]; rfl)
      have HSN : Hid (isSame d n (ns[k]'h) = false → NoneTo (isSame d n) ns (k + 1)) := Lib.hid (fun e => HF.out.step h e)
      clear hxv
      generalize ns[k]'h = x at D0 D1 D2 HXV HSX HSN
      go_upto_region 5 with (fail)
      refine wp_region_px 11 [] (fun w' : World => Kp0 w2 w') (.quiet 0 (.quiet 1 (.quiet 2 (.quiet 3 (.quiet 4 (.eff 5 (.quiet 6 (.quiet 7 (.quiet 8 (.quiet 9 (.quiet 10 .done))))))))))) (by kernel_rfl) (by kernel_rfl) (by kernel_rfl) (by kernel_rfl) (fun _ d _ _ _ h => by cases d <;> exact h) HK.out.drew ?_
      have HK := Lib.hid HK.out.drew
      generalize wr.drew = x0 at HK ⊢
      refine px_quiet (v := .agg (dvl d da db dc).toArray) rfl (by rfl) (fun wq hwq => ?_) rfl ?_
      focus exact run_load_blk 35 (.tmp 3) rfl _ _ (dvl d da db dc) rfl ((HB.out.kp0 (HK2.out.tr hwq)).at 0 rfl) _ Try.underlying35 rfl infoDf
      try simp only [List.setIfInBounds_toArray, List.set_cons_zero, List.set_cons_succ]
      iterate 4 (refine px_quiet (v := ?_) rfl (by rfl) (fun wq hwq => ?_) rfl ?_; rotate_left 1; (focus (have c0 := hwq.cell D0.out (fun h => h); have c1 := hwq.cell D1.out (fun h => h); have c2 := hwq.cell D2.out (fun h => h); go_simp; try (with_reducible rfl); done)); try simp only [List.setIfInBounds_toArray, List.set_cons_zero, List.set_cons_succ])
      refine px_eff rfl (by rfl) (fun K hK => ?_)
      go_simp
      refine (key_any d x da db dc kv2 x0 (HD.out.kp0 (HK2.out.tr HK.out)) (HXV.out.kp0 HK.out) HL.out).mono ?_
      rintro e x1 ⟨ha, hk⟩
      obtain ⟨kx, rfl, hrk⟩ := ha.get
      have HRX := Lib.hid hrk
      simp only []
      have HK := Lib.hid (HK.out.tr hk)
      refine hK (fun w' => Kp0 w2 w') _ _ (fun _ h => h) HK.out ?_
      clear hK K hk ha hrk
      try simp only [List.setIfInBounds_toArray, List.set_cons_zero, List.set_cons_succ]
      iterate 5 (refine px_quiet (v := ?_) rfl (by rfl) (fun wq hwq => ?_) rfl ?_; rotate_left 1; (focus (clear hwq; go_simp; try (with_reducible rfl); done)); try simp only [List.setIfInBounds_toArray, List.set_cons_zero, List.set_cons_succ])
      refine px_done ?_
      cases hb : ((S x.nm).toList == (S n.nm).toList)
      · have HN0 := Lib.hid (HSN.out (by unfold isSame; rw [← S_beq, hb]; rfl))
        go_upto_region 6 with (fail)
        refine wp_region_px 14 [] (fun w' : World => Kp0 w2 w') (.quiet 0 (.quiet 1 (.quiet 2 (.quiet 3 (.quiet 4 (.quiet 5 (.quiet 6 (.quiet 7 (.quiet 8 (.quiet 9 (.quiet 10 (.eff 11 (.quiet 12 (.quiet 13 .done)))))))))))))) (by kernel_rfl) (by kernel_rfl) (by kernel_rfl) (by kernel_rfl) (fun _ d _ _ _ h => by cases d <;> exact h) HK.out.drew ?_
        have HK := Lib.hid HK.out.drew
        have HRX := Lib.hid (HRX.out.kp0 (Kp.refl (fun _ => False) x1).drew)
        generalize x1.drew = x2 at HK HRX ⊢
        iterate 9 (refine px_quiet (v := ?_) rfl (by rfl) (fun wq hwq => ?_) rfl ?_; rotate_left 1; (focus (have c0 := hwq.cell D0.out (fun h => h); have c5 := ((HB.out.kp0 (HK2.out.tr hwq)).at 1 rfl).cellV 0 rfl; go_simp; try (with_reducible rfl); done)); try simp only [List.setIfInBounds_toArray, List.set_cons_zero, List.set_cons_succ])
        iterate 2 (refine px_skip rfl (by rfl) rfl ?_; try simp only [List.setIfInBounds_toArray, List.set_cons_zero, List.set_cons_succ])
        refine px_skipE rfl (by rfl) rfl ?_
        try simp only [List.setIfInBounds_toArray, List.set_cons_zero, List.set_cons_succ]
        refine px_skip rfl (by rfl) rfl ?_
        try simp only [List.setIfInBounds_toArray, List.set_cons_zero, List.set_cons_succ]
        iterate 1 (refine px_quiet (v := ?_) rfl (by rfl) (fun wq hwq => ?_) rfl ?_; rotate_left 1; (focus (clear hwq; go_simp; try (with_reducible rfl); done)); try simp only [List.setIfInBounds_toArray, List.set_cons_zero, List.set_cons_succ])
        refine px_done ?_
        go_wp2
        go_roundw
        case rel => exact ⟨k + 1, by go_num, by omega, HN0, HK.out⟩
        case measure => simp [intOf]; omega
      · obtain ⟨cv, hcv⟩ : ∃ c, c = cmpT ((keyT d.ky x.ks).getD []) ((keyT d.ky n.ks).getD []) := ⟨_, rfl⟩
        have HIS : Hid (isSame d n x = (cv == 0)) := Lib.hid (by unfold isSame keyG; rw [← S_beq, hb, hcv]; rfl)
        go_upto_region 6 with (fail)
        refine wp_region_px 14 [] (fun w' : World => Kp0 w2 w') (.quiet 0 (.quiet 1 (.quiet 2 (.quiet 3 (.quiet 4 (.quiet 5 (.quiet 6 (.quiet 7 (.quiet 8 (.quiet 9 (.quiet 10 (.eff 11 (.quiet 12 (.quiet 13 .done)))))))))))))) (by kernel_rfl) (by kernel_rfl) (by kernel_rfl) (by kernel_rfl) (fun _ d _ _ _ h => by cases d <;> exact h) HK.out.drew ?_
        have HK := Lib.hid HK.out.drew
        have HRX := Lib.hid (HRX.out.kp0 (Kp.refl (fun _ => False) x1).drew)
        generalize x1.drew = x2 at HK HRX ⊢
        iterate 9 (refine px_quiet (v := ?_) rfl (by rfl) (fun wq hwq => ?_) rfl ?_; rotate_left 1; (focus (have c0 := hwq.cell D0.out (fun h => h); have c5 := ((HB.out.kp0 (HK2.out.tr hwq)).at 1 rfl).cellV 0 rfl; go_simp; try (with_reducible rfl); done)); try simp only [List.setIfInBounds_toArray, List.set_cons_zero, List.set_cons_succ])
        iterate 2 (refine px_quiet (v := ?_) rfl (by rfl) (fun wq hwq => ?_) rfl ?_; rotate_left 1; (focus (clear hwq; go_simp; try (with_reducible rfl); done)); try simp only [List.setIfInBounds_toArray, List.set_cons_zero, List.set_cons_succ])
        refine px_eff rfl (by rfl) (fun K hK => ?_)
        go_simp
        refine (compare_any _ _ _ _ x2 HRX.out (HR.out.kp0 HK.out)).mono ?_
        rintro e x3 ⟨rfl, hk⟩
        simp only []
        have HK := Lib.hid (HK.out.tr hk)
        refine hK (fun w' => Kp0 w2 w') _ _ (fun _ h => h) HK.out ?_
        clear hK K hk
        try simp only [List.setIfInBounds_toArray, List.set_cons_zero, List.set_cons_succ]
        iterate 2 (refine px_quiet (v := ?_) rfl (by rfl) (fun wq hwq => ?_) rfl ?_; rotate_left 1; (focus (clear hwq; go_simp; try (with_reducible rfl); done)); try simp only [List.setIfInBounds_toArray, List.set_cons_zero, List.set_cons_succ])
        refine px_done ?_
        rw [← hcv]
        clear hcv
        cases hz : (cv == 0)
        · have HN0 := Lib.hid (HSN.out (by rw [HIS.out, hz]))
          go_wp2
          go_roundw
          case rel => exact ⟨k + 1, by go_num, by omega, HN0, HK.out⟩
          case measure => simp [intOf]; omega
        · have HN0 := Lib.hid (HSX.out (by rw [HIS.out, hz]))
          go_wp2
          go_ret
          exact ⟨by rw [HN0.out]; rfl, HKW.out.tr (HK2.out.tr HK.out)⟩
    · have i1 : ¬ (k : Int) < (ns.length : Int) := by omega
      have HN0 : Hid (sameT d ns n = none) := Lib.hid (HF.out.none (by omega))
      go_wp2
      go_ret
      exact ⟨by rw [HN0.out]; rfl, HKW.out.tr (HK2.out.tr HK.out)⟩
end Go.Proofs.Ytmamcnhofgfolaa
