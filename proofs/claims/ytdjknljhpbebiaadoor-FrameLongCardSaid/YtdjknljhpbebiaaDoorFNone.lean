/- The law FrameNone: its walk. -/
import Derived.Test.YtdjknljhpbebiaaDoorFitF
namespace Go.Proofs.YtdjknljhpbebiaaDoor
open Go Go.RowKit
theorem none_1 : nextS ⟨[120], [], true, false⟩ = ([], 3, ⟨[], [], false, true⟩) := by
  have h1 : stepS [120] [] = .form := by rfl
  have h4 : rawS ⟨[120], [], true, false⟩ = ([], 3, [120], []) := gatherS_form h1
  unfold nextS
  rw [h4]
  rfl
theorem none_2 : nextS ⟨[], [], false, true⟩ = ([], 9, ⟨[], [], false, true⟩) := by rfl
theorem none_f1 : Fine ⟨[120], [], true, false⟩ := ⟨by simp, by simp⟩
theorem none_f2 : Fine ⟨[], [], false, true⟩ := ⟨by simp, by simp⟩
theorem none_l (l : List UInt8) (h : l.length ≤ 3000) (s : St) (hs : s.W = []) : s.W.length + l.length ≤ 140737488355328 := by rw [hs]; simp; omega
set_option maxRecDepth 20000 in
set_option maxHeartbeats 2000000 in
theorem fnone_walk (v : Value) (lb : List UInt8) (w : World) (hv : Rd w v (bys lb)) (hg : Gw w) :
    Calls Tryd.prog 7 #[v] w fun e w' => e = .returned (.bool true) ∧ Kp0 w w' := by
  have HV := Lib.hid hv
  have HG := Lib.hid hg
  obtain ⟨ao, cap, rfl, hc1, hc2, -⟩ := hv.shapeB
  clear hv hg hc2
  go_enter Tryd.func7, Tryd.ntmps7
  go_wp2_with fail
  refine (fit_any _ HG.out).mono ?_
  rintro e w1 ⟨rfl, hk⟩
  have HK1 := Lib.hid hk
  clear hk
  by_cases hbig : 3000 < lb.length
  · go_wp2
    all_goals go_ret
    all_goals exact ⟨rfl, HK1.out⟩
  · have HL : Hid (lb.length ≤ 3000) := Lib.hid (by omega)
    go_wp2_with (first
      | (go_at_call 11; with_reducible refine (feed_nil _ _).mono ?_; rintro e w' ⟨rfl, rfl⟩)
      | (go_at_call 10; with_reducible refine (switch_nil _).mono ?_; rintro e w' ⟨rfl, rfl⟩)
      | (go_at_call 14; with_reducible refine (next_nil _).mono ?_; rintro e w' ⟨rfl, rfl⟩))
    have HB1 : Hid (w.heap.size ≤ w1.heap.size) := Lib.hid HK1.out.size
    have HD2 := Lib.hid (dc_new (B := w.heap.size) (Z := NoZ) (w := w1) HB1.out (fun i h => h.elim))
    have HK2 : Hid (Kp0 w (w1.alloc (.cells #[.slice none 0 0, .slice none 0 0, .bool false, .bool false] 26))) := Lib.hid (HK1.out.alloc _)
    generalize (w1.alloc (.cells #[.slice none 0 0, .slice none 0 0, .bool false, .bool false] 26)) = w2 at HD2 HK2 ⊢
    refine (switch_any w.heap.size NoZ w1.heap.size _ _ HD2.out).mono ?_
    rintro e w3 ⟨rfl, hd, hk⟩
    have HK3 := Lib.hid (kp0_of_fb HK2.out hk)
    have HD3 : Hid (Dc w.heap.size NoZ w3 w1.heap.size ⟨[], [], true, false⟩) := Lib.hid hd
    clear hd hk
    have HK4 : Hid (Kp0 w (w3.alloc (.cells (bys [120]).toArray 5 (1, 2)))) := Lib.hid (HK3.out.alloc _)
    have HM4 : Hid (Rd (w3.alloc (.cells (bys [120]).toArray 5 (1, 2))) (.slice (some ⟨w3.heap.size, 0, none⟩) 1 1) (bys [120])) := Lib.hid (Rd.lit w3 (bys [120]).toArray 5 (1, 2) 1 rfl (by decide))
    have HD4 : Hid (Dc w.heap.size NoZ (w3.alloc (.cells (bys [120]).toArray 5 (1, 2))) w1.heap.size ⟨[], [], true, false⟩) := Lib.hid (HD3.out.kp0 ((Kp.refl _ _).alloc _))
    go_wp2_with (refine wl_const (o := ⟨some 28, _, _, _, _, _⟩) rfl _ 24 5 rfl Tryd.underlying24 Tryd.underlying5 (w1 := w3) (C := (bys [120]).toArray) rfl rfl ?_)
    refine (feed_any w.heap.size NoZ w1.heap.size ⟨[], [], true, false⟩ _ [120] _ HD4.out HM4.out (none_l _ (by simp) _ rfl)).mono ?_
    rintro e w5 ⟨rfl, hd, hk⟩
    have HK5 := Lib.hid (kp0_of_fb HK4.out hk)
    have HD5 : Hid (Dc w.heap.size NoZ w5 w1.heap.size ⟨[120], [], true, false⟩) := Lib.hid hd
    clear hd hk HM4 HD4 HK4
    go_wp2_with fail
    refine (Next_any w.heap.size NoZ w1.heap.size _ _ HD5.out (HG.out.kp0 HK5.out) HG.out.sz none_f1).mono ?_
    rw [none_1]
    rintro e w6 ⟨a, rfl, ha, hd, hk⟩
    have HK6 := Lib.hid (kp0_of_fb HK5.out hk)
    have HD6 := Lib.hid hd
    clear hd hk ha
    simp only [] at HD6 ⊢
    go_wp2_with fail
    refine (feed_any w.heap.size NoZ w1.heap.size _ _ lb _ HD6.out (HV.out.keep0 HK6.out) (none_l _ HL.out _ rfl)).mono ?_
    rintro e w7 ⟨rfl, hd, hk⟩
    have HK7 := Lib.hid (kp0_of_fb HK6.out hk)
    have HD7 : Hid (Dc w.heap.size NoZ w7 w1.heap.size ⟨[], [], false, true⟩) := Lib.hid hd
    clear hd hk
    go_wp2_with fail
    refine (Next_any w.heap.size NoZ w1.heap.size _ _ HD7.out (HG.out.kp0 HK7.out) HG.out.sz none_f2).mono ?_
    rw [none_2]
    rintro e w8 ⟨c, rfl, hc, hd, hk⟩
    have HK8 := Lib.hid (kp0_of_fb HK7.out hk)
    clear hd hk hc
    simp only []
    go_wp2
    all_goals go_ret
    all_goals exact ⟨rfl, HK8.out⟩
end Go.Proofs.YtdjknljhpbebiaaDoor
