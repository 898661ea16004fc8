/- The law ChansCloses: its walk. -/
import Derived.Test.YtbifdckmkogbgaaChX
import Derived.Test.YtbifdckmkogbgaaCSec
namespace Go.Proofs.Ytbifdckmkogbgaa
open Go Go.RowKit
theorem sendOk_bse (sv : Bool) (d : List UInt8) (h : d.length ≤ 20000) : SendOk (bse sv) d := ⟨by show 0 < _; decide, by show 4096 ≤ _; decide, by show 512 ≤ _; decide, fun _ => by show 1 ≤ 512; decide, by show 0 + d.length ≤ _; omega, by show 0 + 0 + d.length ≤ _; omega⟩
theorem cut_len {d : List UInt8} {cs : List (List UInt8)} (h : Cut d cs) : cs.length ≤ d.length := by
  have : ∀ (l : List (List UInt8)), (∀ x ∈ l, x ≠ []) → l.length ≤ l.flatten.length := by
    intro l
    induction l with
    | nil => simp
    | cons a l ih =>
      intro hl
      have h1 := List.length_pos_iff.2 (hl a (by simp))
      have h2 := ih (fun x hx => hl x (by simp [hx]))
      rw [List.flatten_cons, List.length_append, List.length_cons]
      omega
  have h1 := this cs h.ne
  rw [h.fl] at h1
  exact h1
theorem sendOk_cls (sv : Bool) (n : Nat) (cs : List (List UInt8)) (d : List UInt8) (h : d.length ≤ 20000) (hc : cs.length ≤ 20000) : SendOk (clsX sv n cs) d := ⟨by show 0 < _; decide, by show 4096 - n ≤ _; omega, by show 512 ≤ _; decide, fun _ => by show 1 ≤ 512; decide, by show 0 + d.length ≤ _; omega, by show (cs.map (dataB 0) ++ [toB 96 0, toB 97 0]).length + 0 + d.length ≤ _; simp; omega⟩
theorem sendOk_fin (sv : Bool) (d l : List UInt8) (h : l.length ≤ 20000) : SendOk (finY sv d) l := ⟨by show 0 < _; decide, by show 4096 ≤ _; decide, by show 512 ≤ _; decide, fun _ => by show 1 ≤ 512; decide, by show 0 + l.length ≤ _; omega, by show 0 + 0 + l.length ≤ _; omega⟩
theorem recvOk_fin (sv : Bool) (d : List UInt8) (h : d.length ≤ 20000) : RecvOk (finY sv d) := ⟨by show 0 < _; decide, by show 4096 - d.length ≤ _; omega, by show d.length ≤ _; omega, by show 0 ≤ _; decide⟩
theorem rd_own2 {w : World} {v : Value} {l : List UInt8} (h : Rd w v (bys l)) (hl : 0 < l.length) : ∀ b, v.ownBlock = some b → b < w.heap.size := by
  obtain ⟨b0, o, cap, rfl, _, _, hc⟩ := h.posB hl
  intro b hb
  obtain rfl : b0 = b := Option.some.inj hb
  exact World.block_lt_of_cell? w _ (hc 0 hl)
/-- What came in reads on, whatever the call's own blocks become. -/
theorem rd_old {w w1 w2 : World} {v : Value} {l : List UInt8} {by_ : Nat} (h : Rd w v (bys l)) (hk : Kp0 w w1) (hs : Kp (fun i => i = by_) w1 w2) (hb : w.heap.size ≤ by_) : Rd w2 v (bys l) := by
  by_cases h0 : 0 < l.length
  · exact (h.keep0 hk).keep hs (fun b hb2 _ e => by have h1 := rd_own2 h h0 b hb2; have h2 : b = by_ := e; omega)
  · obtain rfl : l = [] := List.eq_nil_of_length_eq_zero (by omega)
    obtain ⟨ao, cap, rfl, h1, h2, h3⟩ := h.shapeB
    exact Rd.empty w2 ao cap (by unfold maxLen; omega) h3
/-- A call on the first of two ends, in a law. -/
theorem two_step {w0 w w1 : World} {bx by_ : Nat} {x : Ch × Ch} {c : Ch} {r : Nat} {e : Ending} {Fx Fy : Nat → Prop} (hk0 : Kp0 w0 w) (h1 : Cm w0.heap.size w bx Fx x.1) (h2 : Cm w0.heap.size w by_ Fy x.2) (h3 : ∀ i, Fx i → ¬ Fy i) (hp : ErrP w0.heap.size bx Fx w (c, r) e w1) :
    e = .returned (.int .i64 r) ∧ Pair w0.heap.size w1 bx by_ (c, x.2) ∧ Kp0 w0 w1 := ⟨hp.1, Pair.first h1 h2 h3 hp.2, kpG hk0 (h1.kge hp.2.choose_spec.2.2)⟩
set_option maxRecDepth 100000 in
set_option maxHeartbeats 4000000 in
theorem ccls_walk (first : Bool) (vd vp : Value) (d p : List UInt8) (w : World) (hd : Rd w vd (bys d)) (hp : Rd w vp (bys p)) :
    Calls Try.prog 5 #[.bool first, vd, vp] w fun e w' => e = .returned (.bool true) ∧ Kp0 w w' := by
  have HD := Lib.hid hd
  have HPP := Lib.hid hp
  obtain ⟨ad, cd, rfl, hdc, _, _⟩ := hd.shapeB
  obtain ⟨ap, cp, rfl, _, _, _⟩ := hp.shapeB
  clear hd hp
  go_enter Try.func5, Try.ntmps5
  go_wp2_with fail
  refine (fit_any _).mono ?_
  rintro e w0 ⟨rfl, hk⟩
  have HK0 := Lib.hid hk
  clear hk
  obtain ⟨L, hL⟩ : ∃ L, L = d.length := ⟨_, rfl⟩
  have HL := Lib.hid hL
  rw [← hL] at hdc ⊢
  clear hL
  by_cases h1 : 3000 < L
  · have h1i : (3000 : Int) < L := by omega
    clear h1
    go_wp2
    all_goals go_ret
    all_goals exact ⟨rfl, HK0.out⟩
  have h1i : ¬ (3000 : Int) < L := by omega
  by_cases h2 : 3000 < p.length
  · have h2i : (3000 : Int) < p.length := by omega
    clear h1 h2
    go_wp2
    all_goals go_ret
    all_goals exact ⟨rfl, HK0.out⟩
  have h2i : ¬ (3000 : Int) < p.length := by omega
  have HDL : Hid (d.length ≤ 3000) := Lib.hid (by have := HL.out; omega)
  have HPL : Hid (p.length ≤ 3000) := Lib.hid (by omega)
  have hdci : (L : Int) ≤ cd := by omega
  clear h1 h2
  go_wp2_with fail
  refine (new_any false _).mono ?_
  rintro e w1 ⟨rfl, hc1, hk1⟩
  have HC1 := Lib.hid hc1
  have HK1 := Lib.hid hk1
  clear hc1 hk1
  go_wp2_with fail
  refine (new_any true _).mono ?_
  rintro e w2 ⟨rfl, hc2, hk2⟩
  have HC2 := Lib.hid hc2
  have HK2 := Lib.hid hk2
  clear hc2 hk2
  go_wp2_with fail
  refine (begin_any w0.heap.size w0.heap.size _ _ _ ((HC1.out _ (Nat.le_refl _)).kp0 HK2.out) (by decide)).mono ?_
  rintro e w3 h3
  obtain ⟨rfl, hs⟩ := sq_start HC1.out HK1.out HC2.out HK2.out h3
  have HS0 := Lib.hid hs
  clear h3 hs HC1 HK1 HC2 HK2
  generalize w0.heap.size = ba at HS0 ⊢
  generalize w1.heap.size = bb at HS0 ⊢
  go_wp2
  go_loopg [27] 4 (fun gg i wr => ∃ k : Nat, i = .int .i64 k ∧ gg = 4 - k ∧ k ≤ 4 ∧ Sq w0 wr ba bb k)
  case atStart => exact ⟨0, rfl, rfl, by omega, HS0.out⟩
  case round =>
    obtain ⟨k, rfl, rfl, hk, hs⟩ := hrel
    have HS := Lib.hid hs
    clear hs HS0
    by_cases hlt : k < 4
    · have hlti : (k : Int) < 4 := by omega
      have HOK := Lib.hid (seq_ok k hlt)
      have HE := Lib.hid hlt
      clear hlt
      go_wp2_with fail
      refine (carry_any w0.heap.size ba bb (seqS k) _ HS.out.p (carryOk_of HOK.out.1)).mono ?_
      rintro e w4 ⟨rfl, h4⟩
      have H4 := Lib.hid h4
      clear h4
      go_wp2_with fail
      refine (carry_any w0.heap.size bb ba _ _ H4.out.1.swap (carryOk_of HOK.out.2)).mono ?_
      rintro e w5 ⟨rfl, h5⟩
      have H5 := Lib.hid (HS.out.carry ⟨rfl, H4.out⟩ ⟨rfl, h5⟩)
      clear h5 H4 HS
      go_wp2
      go_roundg (4 - (k + 1))
      case measure => have := HE.out; omega
      case rel => exact ⟨k + 1, by go_num, rfl, HE.out, H5.out⟩
    · obtain rfl : k = 4 := by omega
      have HP : Hid (Pair w0.heap.size wr ba bb (pairA, pairB)) := Lib.hid (by have hp := HS.out.p; rw [seq_4] at hp; exact hp)
      have HKW : Hid (Kp0 w0 wr) := Lib.hid HS.out.k
      clear hk hlt HS
      have HPQ : Hid (Pair w0.heap.size wr ba bb (bse false, bse true)) := HP
      clear HP
      cases first with
      | false =>
        obtain ⟨⟨sx, sy⟩, hsxy⟩ : ∃ s : Bool × Bool, s = (false, true) := ⟨_, rfl⟩
        have HPX : Hid (Pair w0.heap.size wr ba bb (bse sx, bse sy)) := Lib.hid (by simp only [Prod.mk.injEq] at hsxy; rw [hsxy.1, hsxy.2]; exact HPQ.out)
        clear HPQ hsxy
        go_wp2_with fail
        obtain ⟨bx, rfl⟩ : ∃ bx, bx = ba := ⟨_, rfl⟩
        obtain ⟨by_, rfl⟩ : ∃ by_, by_ = bb := ⟨_, rfl⟩
        obtain ⟨Fx, Fy, hx, hy, hxy⟩ := HPX.out.p
        have HX := Lib.hid hx
        have HY := Lib.hid hy
        have HXY := Lib.hid hxy
        have HDW := Lib.hid (HD.out.keep0 HK0.out)
        clear hx hy hxy HPX
        obtain ⟨cs, hcut, hse⟩ := send_bse sx d (by have := HDL.out; omega)
        have HCUT := Lib.hid hcut
        have HSE := Lib.hid hse
        clear hcut hse
        simp only [] at HX HY
        refine (send_any w0.heap.size bx Fx (bse sx) _ d _ HX.out (by have := HDW.out.keep0 HKW.out; rw [← HL.out] at this; exact this) (sendOk_bse sx d (by have := HDL.out; omega))).mono ?_
        rw [HSE.out]
        rintro e w4 h4
        obtain ⟨rfl, hP4, hk4⟩ := two_step (x := (bse sx, bse sy)) HKW.out HX.out HY.out HXY.out h4
        obtain ⟨Fx, Fy, hx, hy, hxy⟩ := hP4.p
        have HX := Lib.hid hx
        have HY := Lib.hid hy
        have HXY := Lib.hid hxy
        have HK4 := Lib.hid hk4
        clear h4 hP4 hk4 hx hy hxy HKW HSE
        simp only [] at HX HY
        go_wp2_with fail
        refine (end_any w0.heap.size bx Fx (sentC sx d.length cs) _ HX.out (by show 0 < _; decide) (by show (cs.map (dataB 0)).length ≤ _; rw [List.length_map]; have h1 := cut_len HCUT.out; have h2 := HDL.out; omega)).mono ?_
        rw [end_sent]
        rintro e w5 h5
        obtain ⟨rfl, hP5, hk5⟩ := two_step (x := (sentC sx d.length cs, bse sy)) HK4.out HX.out HY.out HXY.out h5
        obtain ⟨Fx, Fy, hx, hy, hxy⟩ := hP5.p
        have HX := Lib.hid hx
        have HY := Lib.hid hy
        have HXY := Lib.hid hxy
        have HK5 := Lib.hid hk5
        clear h5 hP5 hk5 hx hy hxy HK4
        simp only [] at HX HY
        go_wp2_with fail
        refine (send_any w0.heap.size bx Fx (clsX sx d.length cs) _ d _ HX.out (by have := HDW.out.keep0 HK5.out; rw [← HL.out] at this; exact this) (sendOk_cls sx _ cs d (by have := HDL.out; omega) (by have h1 := cut_len HCUT.out; have h2 := HDL.out; omega))).mono ?_
        rw [send_cls]
        rintro e w6 h6
        obtain ⟨rfl, hP6, hk6⟩ := two_step (x := (clsX sx d.length cs, bse sy)) HK5.out HX.out HY.out HXY.out h6
        obtain ⟨Fx, Fy, hx, hy, hxy⟩ := hP6.p
        have HX := Lib.hid hx
        have HY := Lib.hid hy
        have HXY := Lib.hid hxy
        have HK6 := Lib.hid hk6
        clear h6 hP6 hk6 hx hy hxy HK5
        simp only [] at HX HY
        go_wp2_with fail
        refine (end_any w0.heap.size bx Fx (clsX sx d.length cs) _ HX.out (by show 0 < _; decide) (by show (cs.map (dataB 0) ++ [toB 96 0, toB 97 0]).length ≤ _; simp; have h1 := cut_len HCUT.out; have h2 := HDL.out; omega)).mono ?_
        rw [end_cls]
        rintro e w7 h7
        obtain ⟨rfl, hP7, hk7⟩ := two_step (x := (clsX sx d.length cs, bse sy)) HK6.out HX.out HY.out HXY.out h7
        obtain ⟨Fx, Fy, hx, hy, hxy⟩ := hP7.p
        have HX := Lib.hid hx
        have HY := Lib.hid hy
        have HXY := Lib.hid hxy
        have HK7 := Lib.hid hk7
        clear h7 hP7 hk7 hx hy hxy HK6
        simp only [] at HX HY
        go_wp2_with fail
        refine (pending_any w0.heap.size bx Fx (clsX sx d.length cs) _ HX.out).mono ?_
        rw [show ((clsX sx d.length cs).wa.length : Int) = 0 from rfl]
        rintro e y ⟨rfl, rfl⟩
        have HP7 : Hid (Pair w0.heap.size w7 bx by_ (clsSeq sx sy d cs 0)) := Lib.hid ⟨Fx, Fy, HX.out, HY.out, HXY.out⟩
        clear HX HY HXY
        go_wp2
        go_loopg [63] 3 (fun gg i wr => ∃ k : Nat, i = .int .i64 k ∧ gg = 3 - k ∧ k ≤ 3 ∧ Pair w0.heap.size wr bx by_ (clsSeq sx sy d cs k) ∧ Kp0 w0 wr)
        case atStart => exact ⟨0, rfl, rfl, by omega, HP7.out, HK7.out⟩
        case round =>
          obtain ⟨k, rfl, rfl, hk, hp, hkk⟩ := hrel
          have HPk := Lib.hid hp
          have HKk := Lib.hid hkk
          clear hp hkk HP7 HK7
          by_cases hlt : k < 3
          · have hlti : (k : Int) < 3 := by omega
            have HE := Lib.hid hlt
            clear hlt
            have hc1 : ∃ x1, carryS (clsSeq sx sy d cs k).1 (clsSeq sx sy d cs k).2 = x1 ∧ (∀ j, j < (clsSeq sx sy d cs k).1.out.length → TakeOk (takesC (clsSeq sx sy d cs k).2 ((clsSeq sx sy d cs k).1.out.take j))) ∧ (∀ j, j < x1.2.out.length → TakeOk (takesC x1.1 (x1.2.out.take j))) ∧ carryS x1.2 x1.1 = (finY sy d, finX sx d.length) := by
              unfold clsSeq
              by_cases h0 : k = 0
              · rw [if_pos h0]
                exact ⟨_, carry_xy sx sy d cs HCUT.out HDL.out, carry_xy_ok sx sy d cs HCUT.out HDL.out, carry_yx_ok sx sy d, carry_yx sx sy d⟩
              · rw [if_neg h0]
                exact ⟨_, fin_xy sx sy d, (fun j hj => absurd hj (Nat.not_lt_zero j)), (fun j hj => absurd hj (Nat.not_lt_zero j)), fin_yx sx sy d⟩
            obtain ⟨x1, hc1, hc2, hc3, hc4⟩ := hc1
            have HC1 := Lib.hid hc1
            have HC2 := Lib.hid hc2
            have HC3 := Lib.hid hc3
            have HC4 := Lib.hid hc4
            clear hc1 hc2 hc3 hc4
            go_wp2_with fail
            refine (carry_any w0.heap.size bx by_ _ _ HPk.out HC2.out).mono ?_
            rw [HC1.out]
            rintro e y4 ⟨rfl, hP4, hk4⟩
            have HP4 := Lib.hid hP4.swap
            have HK4 := Lib.hid (kpG HKk.out hk4)
            clear hP4 hk4
            go_wp2_with fail
            refine (carry_any w0.heap.size by_ bx _ _ HP4.out HC3.out).mono ?_
            simp only []
            rw [HC4.out]
            rintro e y5 ⟨rfl, hP5, hk5⟩
            have HP5 := Lib.hid hP5.swap
            have HK5 := Lib.hid (kpG HK4.out hk5)
            clear hP5 hk5 HP4 HK4
            go_wp2
            go_roundg (3 - (k + 1))
            case measure => have := HE.out; omega
            case rel => exact ⟨k + 1, by go_num, rfl, HE.out, by unfold clsSeq; rw [if_neg (by omega)]; exact HP5.out, HK5.out⟩
          · obtain rfl : k = 3 := by omega
            obtain ⟨Fx, Fy, hx, hy, hxy⟩ := HPk.out.p
            have HX : Hid (Cm w0.heap.size wr bx Fx (finX sx d.length)) := Lib.hid hx
            have HY : Hid (Cm w0.heap.size wr by_ Fy (finY sy d)) := Lib.hid hy
            have HXY := Lib.hid hxy
            clear hk hlt hx hy hxy HPk HCUT
            go_wp2_with fail
            refine (state_any _ bx Fx _ _ HX.out).mono ?_
            rw [show ((finX sx d.length).st : Int) = 3 from rfl]
            rintro e y ⟨rfl, rfl⟩
            go_wp2_with fail
            refine (state_any _ by_ Fy _ _ HY.out).mono ?_
            rw [show ((finY sy d).st : Int) = 3 from rfl]
            rintro e y ⟨rfl, rfl⟩
            go_wp2_with fail
            refine (send_any w0.heap.size by_ Fy (finY sy d) _ d _ HY.out (by have := HDW.out.keep0 HKk.out; rw [← HL.out] at this; exact this) (sendOk_fin sy d d (by have := HDL.out; omega))).mono ?_
            rw [fin_send]
            rintro e y4 ⟨rfl, F4, hC4, hF4, hk4⟩
            have HC4 : Hid (Cm w0.heap.size y4 by_ F4 (finY sy d)) := Lib.hid hC4
            have HK4 := Lib.hid (kpG HKk.out (HY.out.kge hk4))
            clear hC4 hF4 hk4 HX HY HXY HKk
            go_wp2_with fail
            refine (recv_any w0.heap.size by_ F4 (finY sy d) _ HC4.out (recvOk_fin sy d (by have := HDL.out; omega))).mono ?_
            rintro e y5 ⟨vg, F5, rfl, hrg, hC5, hF5, hvg, hk5⟩
            rw [fin_recv] at hC5
            have HC5 := Lib.hid hC5
            have HK5 := Lib.hid (kpG HK4.out (HC4.out.kge hk5))
            have HRG : Hid (Rd y5 vg (bys d)) := Lib.hid hrg
            have HVG := Lib.hid (fun g hg => (hvg g hg).2)
            clear hC5 hF5 hk5 hrg hvg HC4 HK4
            obtain ⟨ag, cg, hsg, _, _, _⟩ := HRG.out.shapeB
            subst hsg
            rw [← HL.out] at HRG HVG ⊢
            go_upto_region 26 with (fail)
            have HBY : Hid (w.heap.size ≤ by_) := Lib.hid (by have h1 := (HC5.out.fB _ HC5.out.fb).1; have h2 := HK0.out.size; omega)
            have hrg := fun (wq : World) (hq : Kp (fun i => i = by_) y5.drew wq) => (HRG.out.keep0 (Kp.refl _ y5).drew).keep hq (fun g hg _ e => HVG.out g hg (by have h2 : g = by_ := e; rw [h2]; exact HC5.out.fb))
            have hrd := fun (wq : World) (hq : Kp (fun i => i = by_) y5.drew wq) => rd_old HD.out (HK0.out.tr HK5.out.drew) hq HBY.out
            have HRG2 := Lib.hid hrg
            have HRD2 := Lib.hid hrd
            have HC6 := Lib.hid (HC5.out.kp0 (Kp.refl _ y5).drew)
            have HK6 := Lib.hid HK5.out.drew
            have h4 : ¬ (4096 : Int) < (L : Int) := by omega
            clear hrg hrd
            refine wp_region_px7 [[1,8,9,10,11,12,13,14],[8,9,10,11,12,13,14],[6,7,8,9,10,11,12,13,14],[4,5,6,7,8,9,10,11,12,13,14],[5,6,7,8,9,10,11,12,13,14],[6,7,8,9,10,11,12,13,14],[7,8,9,10,11,12,13,14],[8,9,10,11,12,13,14],[9,10,11,12,13,14],[10,11,12,13,14],[11,12,13,14],[12,13,14],[13,14],[14],[]] (fun w' : World => Kp (fun i => i = by_) y5.drew w') (.quiet 0 (.quiet 1 (.quiet 2 (.quiet 3 (.quiet 4 (.quiet 5 (.quiet 6 (.quiet 7 (.quiet 8 (.quiet 9 (.quiet 10 (.eff 11 (.quiet 12 (.quiet 13 (.quiet 14 .done))))))))))))))) (by kernel_rfl) (by kernel_rfl) (by kernel_rfl) (by kernel_rfl) (fun _ d _ _ _ h => by cases d <;> exact h) (Kp.refl _ _) ?_
            generalize y5.drew = wd at HRG2 HRD2 HC6 HK6 ⊢
            have hne : ((tx d).toList != (tx d).toList) = false := by simp
            iterate 11 (refine px_quiet (v := ?_) rfl (by rfl) (fun wq hwq => ?_) rfl ?_; rotate_left 1; (focus (have cv1 := cv_tx (HRG2.out wq hwq); have cv2 := cv_tx (HRD2.out wq hwq); rw [← HL.out] at cv2; go_simp; try (with_reducible rfl); done)); try simp only [List.setIfInBounds_toArray, List.set_cons_zero, List.set_cons_succ])
            refine px_eff rfl (by rfl) (fun K hK => ?_)
            go_simp
            refine (out_any w0.heap.size by_ F5 _ _ HC6.out).mono ?_
            rintro e z1 ⟨vl, rows, F6, rfl, hl, hrs, hC6, _, _, _, hkb, _⟩
            obtain rfl : rows = [] := List.eq_nil_of_length_eq_zero hrs.1
            obtain ⟨al, cl, rfl, _, _, _⟩ := hl.shape
            have HC7 : Hid (Cm w0.heap.size z1 by_ F6 (finZ sy d.length)) := Lib.hid hC6
            have HK7 := Lib.hid (kpG HK6.out (hkb.mono (fun i _ e => by rw [e]; exact (HC6.out.fB _ HC6.out.fb).1)))
            have HKB := Lib.hid hkb
            clear hl hrs hC6 hkb
            simp only []
            refine hK (fun w' : World => w' = z1) _ _ (fun x e => by subst e; exact HKB.out) rfl ?_
            clear hK K
            iterate 3 (refine px_quiet (v := ?_) rfl (by rfl) (fun wq hwq => ?_) rfl ?_; rotate_left 1; (focus (go_simp; try (with_reducible rfl); done)); try simp only [List.setIfInBounds_toArray, List.set_cons_zero, List.set_cons_succ])
            refine px_done ?_
            clear HRG2 HRD2 HC6 HK6 HC5 HRG HVG hne h4
            obtain ⟨r, hr⟩ : ∃ r, r = takeC (finZ sy d.length) p := ⟨_, rfl⟩
            have htf := take_fin sy d.length p
            rw [← hr] at htf
            have HR := Lib.hid hr
            have HTF := Lib.hid htf
            have HPW := Lib.hid ((HPP.out.keep0 HK0.out).keep0 HK7.out)
            clear hr htf
            go_wp2_with fail
            refine (take_any w0.heap.size by_ F6 _ _ p _ HC7.out HPW.out (finZ_ok _ _)).mono ?_
            rw [← HR.out]
            rintro e z2 ⟨rfl, F8, hC8, hF8, hk8⟩
            have HC8 := Lib.hid hC8
            have HK8 := Lib.hid (kpG HK7.out (HC7.out.kge hk8))
            have hst : ((r.1.st : Nat) : Int) = 3 := by rw [HTF.out.1]; rfl
            have HST := Lib.hid hst
            clear hC8 hF8 hk8 hst
            have HPZ := Lib.hid (HPP.out.keep0 (HK0.out.tr HK8.out))
            obtain ⟨c', q⟩ := r
            simp only [] at HTF HST HC8 ⊢
            rcases HTF.out.2 with hq | ⟨hq, hp90⟩
            · obtain rfl : q = 3 := hq
              clear HR HTF HPW
              go_wp2_with fail
              refine (state_any _ by_ F8 _ _ HC8.out).mono ?_
              rw [HST.out]
              rintro e y ⟨rfl, rfl⟩
              go_wp2
              all_goals go_ret
              all_goals exact ⟨rfl, HK0.out.tr HK8.out⟩
            · obtain rfl : q = 0 := hq
              have hpl : 0 < p.length := by
                cases p with
                | nil => cases hp90
                | cons => simp
              have hp0 : p[0]'hpl = 90 := by
                cases p with
                | nil => cases hp90
                | cons c l => simpa using hp90
              obtain ⟨gp, op, cp2, ev, _, _, hcell⟩ := HPZ.out.posB hpl
              simp only [Value.slice.injEq] at ev
              obtain ⟨rfl, -, rfl⟩ := ev
              have hq0 := hcell 0 hpl
              rw [hp0] at hq0
              have hq0' : z2.cell? ⟨gp, op, none⟩ = some (.int .u8 90) := hq0
              have hpi : (0 : Int) < p.length := by omega
              clear HR HTF HPW hcell hp90 hp0 hq0
              go_wp2_with fail
              refine (state_any _ by_ F8 _ _ HC8.out).mono ?_
              rw [HST.out]
              rintro e y ⟨rfl, rfl⟩
              go_wp2
              all_goals go_ret
              all_goals exact ⟨rfl, HK0.out.tr HK8.out⟩
      | true =>
        obtain ⟨⟨sx, sy⟩, hsxy⟩ : ∃ s : Bool × Bool, s = (true, false) := ⟨_, rfl⟩
        have HPX : Hid (Pair w0.heap.size wr bb ba (bse sx, bse sy)) := Lib.hid (by simp only [Prod.mk.injEq] at hsxy; rw [hsxy.1, hsxy.2]; exact HPQ.out.swap)
        clear HPQ hsxy
        go_wp2_with fail
        obtain ⟨bx, rfl⟩ : ∃ bx, bx = bb := ⟨_, rfl⟩
        obtain ⟨by_, rfl⟩ : ∃ by_, by_ = ba := ⟨_, rfl⟩
        obtain ⟨Fx, Fy, hx, hy, hxy⟩ := HPX.out.p
        have HX := Lib.hid hx
        have HY := Lib.hid hy
        have HXY := Lib.hid hxy
        have HDW := Lib.hid (HD.out.keep0 HK0.out)
        clear hx hy hxy HPX
        obtain ⟨cs, hcut, hse⟩ := send_bse sx d (by have := HDL.out; omega)
        have HCUT := Lib.hid hcut
        have HSE := Lib.hid hse
        clear hcut hse
        simp only [] at HX HY
        refine (send_any w0.heap.size bx Fx (bse sx) _ d _ HX.out (by have := HDW.out.keep0 HKW.out; rw [← HL.out] at this; exact this) (sendOk_bse sx d (by have := HDL.out; omega))).mono ?_
        rw [HSE.out]
        rintro e w4 h4
        obtain ⟨rfl, hP4, hk4⟩ := two_step (x := (bse sx, bse sy)) HKW.out HX.out HY.out HXY.out h4
        obtain ⟨Fx, Fy, hx, hy, hxy⟩ := hP4.p
        have HX := Lib.hid hx
        have HY := Lib.hid hy
        have HXY := Lib.hid hxy
        have HK4 := Lib.hid hk4
        clear h4 hP4 hk4 hx hy hxy HKW HSE
        simp only [] at HX HY
        go_wp2_with fail
        refine (end_any w0.heap.size bx Fx (sentC sx d.length cs) _ HX.out (by show 0 < _; decide) (by show (cs.map (dataB 0)).length ≤ _; rw [List.length_map]; have h1 := cut_len HCUT.out; have h2 := HDL.out; omega)).mono ?_
        rw [end_sent]
        rintro e w5 h5
        obtain ⟨rfl, hP5, hk5⟩ := two_step (x := (sentC sx d.length cs, bse sy)) HK4.out HX.out HY.out HXY.out h5
        obtain ⟨Fx, Fy, hx, hy, hxy⟩ := hP5.p
        have HX := Lib.hid hx
        have HY := Lib.hid hy
        have HXY := Lib.hid hxy
        have HK5 := Lib.hid hk5
        clear h5 hP5 hk5 hx hy hxy HK4
        simp only [] at HX HY
        go_wp2_with fail
        refine (send_any w0.heap.size bx Fx (clsX sx d.length cs) _ d _ HX.out (by have := HDW.out.keep0 HK5.out; rw [← HL.out] at this; exact this) (sendOk_cls sx _ cs d (by have := HDL.out; omega) (by have h1 := cut_len HCUT.out; have h2 := HDL.out; omega))).mono ?_
        rw [send_cls]
        rintro e w6 h6
        obtain ⟨rfl, hP6, hk6⟩ := two_step (x := (clsX sx d.length cs, bse sy)) HK5.out HX.out HY.out HXY.out h6
        obtain ⟨Fx, Fy, hx, hy, hxy⟩ := hP6.p
        have HX := Lib.hid hx
        have HY := Lib.hid hy
        have HXY := Lib.hid hxy
        have HK6 := Lib.hid hk6
        clear h6 hP6 hk6 hx hy hxy HK5
        simp only [] at HX HY
        go_wp2_with fail
        refine (end_any w0.heap.size bx Fx (clsX sx d.length cs) _ HX.out (by show 0 < _; decide) (by show (cs.map (dataB 0) ++ [toB 96 0, toB 97 0]).length ≤ _; simp; have h1 := cut_len HCUT.out; have h2 := HDL.out; omega)).mono ?_
        rw [end_cls]
        rintro e w7 h7
        obtain ⟨rfl, hP7, hk7⟩ := two_step (x := (clsX sx d.length cs, bse sy)) HK6.out HX.out HY.out HXY.out h7
        obtain ⟨Fx, Fy, hx, hy, hxy⟩ := hP7.p
        have HX := Lib.hid hx
        have HY := Lib.hid hy
        have HXY := Lib.hid hxy
        have HK7 := Lib.hid hk7
        clear h7 hP7 hk7 hx hy hxy HK6
        simp only [] at HX HY
        go_wp2_with fail
        refine (pending_any w0.heap.size bx Fx (clsX sx d.length cs) _ HX.out).mono ?_
        rw [show ((clsX sx d.length cs).wa.length : Int) = 0 from rfl]
        rintro e y ⟨rfl, rfl⟩
        have HP7 : Hid (Pair w0.heap.size w7 bx by_ (clsSeq sx sy d cs 0)) := Lib.hid ⟨Fx, Fy, HX.out, HY.out, HXY.out⟩
        clear HX HY HXY
        go_wp2
        go_loopg [63] 3 (fun gg i wr => ∃ k : Nat, i = .int .i64 k ∧ gg = 3 - k ∧ k ≤ 3 ∧ Pair w0.heap.size wr bx by_ (clsSeq sx sy d cs k) ∧ Kp0 w0 wr)
        case atStart => exact ⟨0, rfl, rfl, by omega, HP7.out, HK7.out⟩
        case round =>
          obtain ⟨k, rfl, rfl, hk, hp, hkk⟩ := hrel
          have HPk := Lib.hid hp
          have HKk := Lib.hid hkk
          clear hp hkk HP7 HK7
          by_cases hlt : k < 3
          · have hlti : (k : Int) < 3 := by omega
            have HE := Lib.hid hlt
            clear hlt
            have hc1 : ∃ x1, carryS (clsSeq sx sy d cs k).1 (clsSeq sx sy d cs k).2 = x1 ∧ (∀ j, j < (clsSeq sx sy d cs k).1.out.length → TakeOk (takesC (clsSeq sx sy d cs k).2 ((clsSeq sx sy d cs k).1.out.take j))) ∧ (∀ j, j < x1.2.out.length → TakeOk (takesC x1.1 (x1.2.out.take j))) ∧ carryS x1.2 x1.1 = (finY sy d, finX sx d.length) := by
              unfold clsSeq
              by_cases h0 : k = 0
              · rw [if_pos h0]
                exact ⟨_, carry_xy sx sy d cs HCUT.out HDL.out, carry_xy_ok sx sy d cs HCUT.out HDL.out, carry_yx_ok sx sy d, carry_yx sx sy d⟩
              · rw [if_neg h0]
                exact ⟨_, fin_xy sx sy d, (fun j hj => absurd hj (Nat.not_lt_zero j)), (fun j hj => absurd hj (Nat.not_lt_zero j)), fin_yx sx sy d⟩
            obtain ⟨x1, hc1, hc2, hc3, hc4⟩ := hc1
            have HC1 := Lib.hid hc1
            have HC2 := Lib.hid hc2
            have HC3 := Lib.hid hc3
            have HC4 := Lib.hid hc4
            clear hc1 hc2 hc3 hc4
            go_wp2_with fail
            refine (carry_any w0.heap.size bx by_ _ _ HPk.out HC2.out).mono ?_
            rw [HC1.out]
            rintro e y4 ⟨rfl, hP4, hk4⟩
            have HP4 := Lib.hid hP4.swap
            have HK4 := Lib.hid (kpG HKk.out hk4)
            clear hP4 hk4
            go_wp2_with fail
            refine (carry_any w0.heap.size by_ bx _ _ HP4.out HC3.out).mono ?_
            simp only []
            rw [HC4.out]
            rintro e y5 ⟨rfl, hP5, hk5⟩
            have HP5 := Lib.hid hP5.swap
            have HK5 := Lib.hid (kpG HK4.out hk5)
            clear hP5 hk5 HP4 HK4
            go_wp2
            go_roundg (3 - (k + 1))
            case measure => have := HE.out; omega
            case rel => exact ⟨k + 1, by go_num, rfl, HE.out, by unfold clsSeq; rw [if_neg (by omega)]; exact HP5.out, HK5.out⟩
          · obtain rfl : k = 3 := by omega
            obtain ⟨Fx, Fy, hx, hy, hxy⟩ := HPk.out.p
            have HX : Hid (Cm w0.heap.size wr bx Fx (finX sx d.length)) := Lib.hid hx
            have HY : Hid (Cm w0.heap.size wr by_ Fy (finY sy d)) := Lib.hid hy
            have HXY := Lib.hid hxy
            clear hk hlt hx hy hxy HPk HCUT
            go_wp2_with fail
            refine (state_any _ bx Fx _ _ HX.out).mono ?_
            rw [show ((finX sx d.length).st : Int) = 3 from rfl]
            rintro e y ⟨rfl, rfl⟩
            go_wp2_with fail
            refine (state_any _ by_ Fy _ _ HY.out).mono ?_
            rw [show ((finY sy d).st : Int) = 3 from rfl]
            rintro e y ⟨rfl, rfl⟩
            go_wp2_with fail
            refine (send_any w0.heap.size by_ Fy (finY sy d) _ d _ HY.out (by have := HDW.out.keep0 HKk.out; rw [← HL.out] at this; exact this) (sendOk_fin sy d d (by have := HDL.out; omega))).mono ?_
            rw [fin_send]
            rintro e y4 ⟨rfl, F4, hC4, hF4, hk4⟩
            have HC4 : Hid (Cm w0.heap.size y4 by_ F4 (finY sy d)) := Lib.hid hC4
            have HK4 := Lib.hid (kpG HKk.out (HY.out.kge hk4))
            clear hC4 hF4 hk4 HX HY HXY HKk
            go_wp2_with fail
            refine (recv_any w0.heap.size by_ F4 (finY sy d) _ HC4.out (recvOk_fin sy d (by have := HDL.out; omega))).mono ?_
            rintro e y5 ⟨vg, F5, rfl, hrg, hC5, hF5, hvg, hk5⟩
            rw [fin_recv] at hC5
            have HC5 := Lib.hid hC5
            have HK5 := Lib.hid (kpG HK4.out (HC4.out.kge hk5))
            have HRG : Hid (Rd y5 vg (bys d)) := Lib.hid hrg
            have HVG := Lib.hid (fun g hg => (hvg g hg).2)
            clear hC5 hF5 hk5 hrg hvg HC4 HK4
            obtain ⟨ag, cg, hsg, _, _, _⟩ := HRG.out.shapeB
            subst hsg
            rw [← HL.out] at HRG HVG ⊢
            go_upto_region 26 with (fail)
            have HBY : Hid (w.heap.size ≤ by_) := Lib.hid (by have h1 := (HC5.out.fB _ HC5.out.fb).1; have h2 := HK0.out.size; omega)
            have hrg := fun (wq : World) (hq : Kp (fun i => i = by_) y5.drew wq) => (HRG.out.keep0 (Kp.refl _ y5).drew).keep hq (fun g hg _ e => HVG.out g hg (by have h2 : g = by_ := e; rw [h2]; exact HC5.out.fb))
            have hrd := fun (wq : World) (hq : Kp (fun i => i = by_) y5.drew wq) => rd_old HD.out (HK0.out.tr HK5.out.drew) hq HBY.out
            have HRG2 := Lib.hid hrg
            have HRD2 := Lib.hid hrd
            have HC6 := Lib.hid (HC5.out.kp0 (Kp.refl _ y5).drew)
            have HK6 := Lib.hid HK5.out.drew
            have h4 : ¬ (4096 : Int) < (L : Int) := by omega
            clear hrg hrd
            refine wp_region_px7 [[1,8,9,10,11,12,13,14],[8,9,10,11,12,13,14],[6,7,8,9,10,11,12,13,14],[4,5,6,7,8,9,10,11,12,13,14],[5,6,7,8,9,10,11,12,13,14],[6,7,8,9,10,11,12,13,14],[7,8,9,10,11,12,13,14],[8,9,10,11,12,13,14],[9,10,11,12,13,14],[10,11,12,13,14],[11,12,13,14],[12,13,14],[13,14],[14],[]] (fun w' : World => Kp (fun i => i = by_) y5.drew w') (.quiet 0 (.quiet 1 (.quiet 2 (.quiet 3 (.quiet 4 (.quiet 5 (.quiet 6 (.quiet 7 (.quiet 8 (.quiet 9 (.quiet 10 (.eff 11 (.quiet 12 (.quiet 13 (.quiet 14 .done))))))))))))))) (by kernel_rfl) (by kernel_rfl) (by kernel_rfl) (by kernel_rfl) (fun _ d _ _ _ h => by cases d <;> exact h) (Kp.refl _ _) ?_
            generalize y5.drew = wd at HRG2 HRD2 HC6 HK6 ⊢
            have hne : ((tx d).toList != (tx d).toList) = false := by simp
            iterate 11 (refine px_quiet (v := ?_) rfl (by rfl) (fun wq hwq => ?_) rfl ?_; rotate_left 1; (focus (have cv1 := cv_tx (HRG2.out wq hwq); have cv2 := cv_tx (HRD2.out wq hwq); rw [← HL.out] at cv2; go_simp; try (with_reducible rfl); done)); try simp only [List.setIfInBounds_toArray, List.set_cons_zero, List.set_cons_succ])
            refine px_eff rfl (by rfl) (fun K hK => ?_)
            go_simp
            refine (out_any w0.heap.size by_ F5 _ _ HC6.out).mono ?_
            rintro e z1 ⟨vl, rows, F6, rfl, hl, hrs, hC6, _, _, _, hkb, _⟩
            obtain rfl : rows = [] := List.eq_nil_of_length_eq_zero hrs.1
            obtain ⟨al, cl, rfl, _, _, _⟩ := hl.shape
            have HC7 : Hid (Cm w0.heap.size z1 by_ F6 (finZ sy d.length)) := Lib.hid hC6
            have HK7 := Lib.hid (kpG HK6.out (hkb.mono (fun i _ e => by rw [e]; exact (HC6.out.fB _ HC6.out.fb).1)))
            have HKB := Lib.hid hkb
            clear hl hrs hC6 hkb
            simp only []
            refine hK (fun w' : World => w' = z1) _ _ (fun x e => by subst e; exact HKB.out) rfl ?_
            clear hK K
            iterate 3 (refine px_quiet (v := ?_) rfl (by rfl) (fun wq hwq => ?_) rfl ?_; rotate_left 1; (focus (go_simp; try (with_reducible rfl); done)); try simp only [List.setIfInBounds_toArray, List.set_cons_zero, List.set_cons_succ])
            refine px_done ?_
            clear HRG2 HRD2 HC6 HK6 HC5 HRG HVG hne h4
            obtain ⟨r, hr⟩ : ∃ r, r = takeC (finZ sy d.length) p := ⟨_, rfl⟩
            have htf := take_fin sy d.length p
            rw [← hr] at htf
            have HR := Lib.hid hr
            have HTF := Lib.hid htf
            have HPW := Lib.hid ((HPP.out.keep0 HK0.out).keep0 HK7.out)
            clear hr htf
            go_wp2_with fail
            refine (take_any w0.heap.size by_ F6 _ _ p _ HC7.out HPW.out (finZ_ok _ _)).mono ?_
            rw [← HR.out]
            rintro e z2 ⟨rfl, F8, hC8, hF8, hk8⟩
            have HC8 := Lib.hid hC8
            have HK8 := Lib.hid (kpG HK7.out (HC7.out.kge hk8))
            have hst : ((r.1.st : Nat) : Int) = 3 := by rw [HTF.out.1]; rfl
            have HST := Lib.hid hst
            clear hC8 hF8 hk8 hst
            have HPZ := Lib.hid (HPP.out.keep0 (HK0.out.tr HK8.out))
            obtain ⟨c', q⟩ := r
            simp only [] at HTF HST HC8 ⊢
            rcases HTF.out.2 with hq | ⟨hq, hp90⟩
            · obtain rfl : q = 3 := hq
              clear HR HTF HPW
              go_wp2_with fail
              refine (state_any _ by_ F8 _ _ HC8.out).mono ?_
              rw [HST.out]
              rintro e y ⟨rfl, rfl⟩
              go_wp2
              all_goals go_ret
              all_goals exact ⟨rfl, HK0.out.tr HK8.out⟩
            · obtain rfl : q = 0 := hq
              have hpl : 0 < p.length := by
                cases p with
                | nil => cases hp90
                | cons => simp
              have hp0 : p[0]'hpl = 90 := by
                cases p with
                | nil => cases hp90
                | cons c l => simpa using hp90
              obtain ⟨gp, op, cp2, ev, _, _, hcell⟩ := HPZ.out.posB hpl
              simp only [Value.slice.injEq] at ev
              obtain ⟨rfl, -, rfl⟩ := ev
              have hq0 := hcell 0 hpl
              rw [hp0] at hq0
              have hq0' : z2.cell? ⟨gp, op, none⟩ = some (.int .u8 90) := hq0
              have hpi : (0 : Int) < p.length := by omega
              clear HR HTF HPW hcell hp90 hp0 hq0
              go_wp2_with fail
              refine (state_any _ by_ F8 _ _ HC8.out).mono ?_
              rw [HST.out]
              rintro e y ⟨rfl, rfl⟩
              go_wp2
              all_goals go_ret
              all_goals exact ⟨rfl, HK0.out.tr HK8.out⟩
end Go.Proofs.Ytbifdckmkogbgaa
