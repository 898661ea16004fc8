/- Package chans: what an end hears. -/
import Derived.Test.YtbifdckmkogbgaaChT
namespace Go.Proofs.Ytbifdckmkogbgaa
open Go Go.RowKit
def BoolP (x : Bool) (w : World) (e : Ending) (w' : World) : Prop := e = .returned (.bool x) ∧ Kp0 w w'
set_option maxRecDepth 20000 in
set_option maxHeartbeats 2000000 in
theorem hearsO_any (B b : Nat) (F : Nat → Prop) (c : Ch) (m : Msg) (t : ByteArray) (w : World) (h0 : Cm B w b F c) (ht : t.toList = m.text) (hw : c.wi ≤ 2147483647) (hwm : m.win < 4294967296) :
    Calls Try.prog 50 #[.pointer (some ⟨b, 0, none⟩), .agg (cellsM m t).toArray] w (BoolP (hearsO c m) w) := by
  obtain ⟨vw, vc, vo, rows, h⟩ := h0
  obtain ⟨k, tg, fr, win, most, text, ask, runs⟩ := m
  simp only [] at ht hwm
  show Calls Try.prog 50 #[.pointer (some ⟨b, 0, none⟩), .agg #[.int .u8 (k : Int), .int .u32 (tg : Int), .int .u32 (fr : Int), .int .u32 (win : Int), .int .u32 (most : Int), .string t, .bool ask, .bool runs]] w _
  have HA := Lib.hid (fun (o : Obj) => h.kp0 ((Kp.refl _ w).alloc o))
  have HK := Lib.hid (fun (o : Obj) => ((Kp.refl _ w).alloc o : Kp0 w (w.alloc o)))
  obtain ⟨wi, hwi⟩ : ∃ x, x = c.wi := ⟨_, rfl⟩
  obtain ⟨ro, hro⟩ : ∃ x, x = c.ro := ⟨_, rfl⟩
  obtain ⟨en, hen⟩ : ∃ x, x = c.en := ⟨_, rfl⟩
  obtain ⟨sv, hsv⟩ : ∃ x, x = c.sv := ⟨_, rfl⟩
  obtain ⟨rd, hrd⟩ : ∃ x, x = c.rd := ⟨_, rfl⟩
  have hc0 := fun o => (HA.out o).c0
  have hc2 := fun o => (HA.out o).c2
  have hc4 := fun o => (HA.out o).c4
  have hc6 := fun o => (HA.out o).c6
  have hc10 := fun o => (HA.out o).c10
  simp only [← hsv] at hc0
  simp only [← hrd] at hc2
  simp only [← hwi] at hc4 hw
  simp only [← hro] at hc6
  simp only [← hen] at hc10
  have hts : t.size = text.length := by rw [← size_toList, ht]
  clear h ht
  by_cases h93 : k = 93
  · subst h93
    have HE : Hid (hearsO c ⟨93, tg, fr, win, most, text, ask, runs⟩ = decide (win ≤ 2147483647 - wi)) := Lib.hid (by unfold hearsO; rw [hwi]; rfl)
    rw [HE.out]
    have hwb : (wi : Int) ≤ 2147483647 := by omega
    by_cases hle : win ≤ 2147483647 - wi
    · have hli : (win : Int) ≤ 2147483647 - (wi : Int) := by omega
      rw [decide_eq_true hle]
      clear hwi hro hen hsv hrd hts hc0 hc2 hc6 hc10 hle hwm
      go_enter Try.func50, Try.ntmps50
      go_upto_region 3 with (fail)
      go_quiet (fail)
      rename_i nq
      go_wp2
      go_ret
      exact ⟨rfl, (HK.out _).drewN _⟩
    · have hli : ¬ (win : Int) ≤ 2147483647 - (wi : Int) := by omega
      rw [decide_eq_false hle]
      clear hwi hro hen hsv hrd hts hc0 hc2 hc6 hc10 hle hwm
      go_enter Try.func50, Try.ntmps50
      go_upto_region 3 with (fail)
      go_quiet (fail)
      rename_i nq
      go_wp2
      go_ret
      exact ⟨rfl, (HK.out _).drewN _⟩
  have e93 : ((k : Int) == 93) = false := by rw [beq_eq_false_iff_ne]; omega
  by_cases h94 : k = 94
  · subst h94
    have HE : Hid (hearsO c ⟨94, tg, fr, win, most, text, ask, runs⟩ = (!en && decide (t.size ≤ min ro 512))) := Lib.hid (by unfold hearsO; rw [hen, hts, hro]; rfl)
    rw [HE.out]
    cases en with
    | true =>
      clear hwi hro hen hsv hrd hts hc0 hc2 hc4 hc6 hwm h93
      rw [show (!true && decide (t.size ≤ min ro 512)) = false from rfl]
      go_enter Try.func50, Try.ntmps50
      go_upto_region 5 with (fail)
      go_quiet (fail)
      rename_i nq
      go_wp2
      go_ret
      exact ⟨rfl, (HK.out _).drewN _⟩
    | false =>
      rw [show (!false && decide (t.size ≤ min ro 512)) = decide (t.size ≤ min ro 512) from rfl]
      by_cases h5 : 512 < ro
      · have h5i : (512 : Int) < ro := by omega
        by_cases hle : t.size ≤ 512
        · have hli : (t.size : Int) ≤ 512 := by omega
          rw [decide_eq_true (show t.size ≤ min ro 512 by omega)]
          clear hwi hro hen hsv hrd hts hc0 hc2 hc4 hwm h93 hle
          go_enter Try.func50, Try.ntmps50
          go_upto_region 5 with (fail)
          go_quiet (fail)
          rename_i nq
          go_wp2
          go_ret
          exact ⟨rfl, (HK.out _).drewN _⟩
        · have hli : ¬ (t.size : Int) ≤ 512 := by omega
          rw [decide_eq_false (show ¬ t.size ≤ min ro 512 by omega)]
          clear hwi hro hen hsv hrd hts hc0 hc2 hc4 hwm h93 hle
          go_enter Try.func50, Try.ntmps50
          go_upto_region 5 with (fail)
          go_quiet (fail)
          rename_i nq
          go_wp2
          go_ret
          exact ⟨rfl, (HK.out _).drewN _⟩
      · have h5i : ¬ (512 : Int) < ro := by omega
        by_cases hle : t.size ≤ ro
        · have hli : (t.size : Int) ≤ ro := by omega
          rw [decide_eq_true (show t.size ≤ min ro 512 by omega)]
          clear hwi hro hen hsv hrd hts hc0 hc2 hc4 hwm h93
          go_enter Try.func50, Try.ntmps50
          go_upto_region 5 with (fail)
          go_quiet (fail)
          rename_i nq
          go_wp2
          go_ret
          exact ⟨rfl, (HK.out _).drewN _⟩
        · have hli : ¬ (t.size : Int) ≤ ro := by omega
          rw [decide_eq_false (show ¬ t.size ≤ min ro 512 by omega)]
          clear hwi hro hen hsv hrd hts hc0 hc2 hc4 hwm h93
          go_enter Try.func50, Try.ntmps50
          go_upto_region 5 with (fail)
          go_quiet (fail)
          rename_i nq
          go_wp2
          go_ret
          exact ⟨rfl, (HK.out _).drewN _⟩
  have e94 : ((k : Int) == 94) = false := by rw [beq_eq_false_iff_ne]; omega
  by_cases h96 : k = 96
  · subst h96
    have HE : Hid (hearsO c ⟨96, tg, fr, win, most, text, ask, runs⟩ = !en) := Lib.hid (by unfold hearsO; rw [hen]; rfl)
    rw [HE.out]
    clear hwi hro hen hsv hrd hts hc0 hc2 hc4 hc6 hwm h93 h94
    go_enter Try.func50, Try.ntmps50
    go_wp2
    go_ret
    exact ⟨rfl, HK.out _⟩
  have e96 : ((k : Int) == 96) = false := by rw [beq_eq_false_iff_ne]; omega
  by_cases h99 : k = 99
  · subst h99
    have HE : Hid (hearsO c ⟨99, tg, fr, win, most, text, ask, runs⟩ = (!sv && !rd)) := Lib.hid (by unfold hearsO; rw [hsv, hrd]; rfl)
    rw [HE.out]
    clear hwi hro hen hsv hrd hts hc4 hc6 hc10 hwm h93 h94 h96
    cases sv <;> cases rd <;>
      (--@x
       go_enter Try.func50, Try.ntmps50
       go_wp2
       go_ret
       exact ⟨rfl, HK.out _⟩)
  have e99 : ((k : Int) == 99) = false := by rw [beq_eq_false_iff_ne]; omega
  by_cases h100 : k = 100
  · subst h100
    have HE : Hid (hearsO c ⟨100, tg, fr, win, most, text, ask, runs⟩ = (!sv && !rd)) := Lib.hid (by unfold hearsO; rw [hsv, hrd]; rfl)
    rw [HE.out]
    clear hwi hro hen hsv hrd hts hc4 hc6 hc10 hwm h93 h94 h96 h99
    cases sv <;> cases rd <;>
      (--@x
       go_enter Try.func50, Try.ntmps50
       go_wp2
       go_ret
       exact ⟨rfl, HK.out _⟩)
  have e100 : ((k : Int) == 100) = false := by rw [beq_eq_false_iff_ne]; omega
  have HE : Hid (hearsO c ⟨k, tg, fr, win, most, text, ask, runs⟩ = true) := Lib.hid (by
    unfold hearsO
    rw [if_neg h93, if_neg h94, if_neg h96, if_neg (by simp only []; omega)])
  rw [HE.out]
  clear hwi hro hen hsv hrd hts hc0 hc2 hc4 hc6 hc10 hwm h93 h94 h96 h99 h100
  go_enter Try.func50, Try.ntmps50
  go_wp2
  go_ret
  exact ⟨rfl, HK.out _⟩
end Go.Proofs.Ytbifdckmkogbgaa
