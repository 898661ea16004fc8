/- Package chans: opening, admitting, answering. -/
import Derived.Test.YtbifdckmkogbgaaChI
import Derived.Test.YtbifdckmkogbgaaApS
namespace Go.Proofs.Ytbifdckmkogbgaa
open Go Go.RowKit
/-- What an opening leaves. -/
theorem CmV.opened {B : Nat} {w : World} {b : Nat} {F : Nat → Prop} {vw vc vo : Value} {rows : List Value} {c : Ch} (h : CmV B w b F vw vc vo rows c) (m : Msg) (x y : Int) (hx : x = ((min m.win 1073741824 : Nat) : Int)) (hy : y = ((min m.most 512 : Nat) : Int)) :
    CmP B b F w (openS c m) (((((w.setCell ⟨b, 1, none⟩ (.int .i64 2)).setCell ⟨b, 3, none⟩ (.int .u32 (m.frm : Int))).setCell ⟨b, 4, none⟩ (.int .i64 x)).setCell ⟨b, 5, none⟩ (.int .i64 y)).setCell ⟨b, 6, none⟩ (.int .i64 4096)) := by
  subst hx hy
  have h1 := h.set 1 (.int .i64 2) { c with st := 2 } rfl rfl rfl rfl
  have h2 := h1.1.set 3 (.int .u32 (m.frm : Int)) { c with st := 2, nu := m.frm } rfl rfl rfl rfl
  have h3 := h2.1.set 4 (.int .i64 ((min m.win 1073741824 : Nat) : Int)) { c with st := 2, nu := m.frm, wi := min m.win 1073741824 } rfl rfl rfl rfl
  have h4 := h3.1.set 5 (.int .i64 ((min m.most 512 : Nat) : Int)) { c with st := 2, nu := m.frm, wi := min m.win 1073741824, mo := min m.most 512 } rfl rfl rfl rfl
  have h5 := h4.1.set 6 (.int .i64 4096) (openS c m) rfl rfl rfl rfl
  exact ⟨F, h5.1.cm, fun _ h => .inl h, (((h1.2.tr h2.2).tr h3.2).tr h4.2).tr h5.2⟩
theorem CmP.al {B b : Nat} {F : Nat → Prop} {w : World} {c' : Ch} {w' : World} {o : Obj} (h : CmP B b F (w.alloc o) c' w') : CmP B b F w c' w' := CmP.trans (fun _ h => .inl h) (((Kp.refl (fun _ => False) w).alloc o).nil F) h
set_option maxRecDepth 20000 in
set_option maxHeartbeats 2000000 in
theorem open_any (B b : Nat) (F : Nat → Prop) (c : Ch) (m : Msg) (t : ByteArray) (w : World) (h0 : Cm B w b F c) (hwm : m.win < 4294967296) (hmm : m.most < 4294967296) :
    Calls Try.prog 52 #[.pointer (some ⟨b, 0, none⟩), .agg (cellsM m t).toArray] w (DoneP B b F w (openS c m)) := by
  obtain ⟨vw, vc, vo, rows, h⟩ := h0
  obtain ⟨k, tg, fr, win, most, text, ask, runs⟩ := m
  simp only [] at hwm hmm
  show Calls Try.prog 52 #[.pointer (some ⟨b, 0, none⟩), .agg #[.int .u8 (k : Int), .int .u32 (tg : Int), .int .u32 (fr : Int), .int .u32 (win : Int), .int .u32 (most : Int), .string t, .bool ask, .bool runs]] w _
  have hbn : ¬ b = w.heap.size := by have := h.lt; omega
  have hbn2 : ¬ w.heap.size = b := by have := h.lt; omega
  have hA := fun (o : Obj) => h.kp0 ((Kp.refl _ w).alloc o)
  have hc1 := fun o => (hA o).c1
  have hc3 := fun o => (hA o).c3
  have hc4 := fun o => (hA o).c4
  have hc5 := fun o => (hA o).c5
  have hc6 := fun o => (hA o).c6
  have hf1 := fun o => (hA o).fz 1
  have hf3 := fun o => (hA o).fz 3
  have hf4 := fun o => (hA o).fz 4
  have hf5 := fun o => (hA o).fz 5
  have hf6 := fun o => (hA o).fz 6
  by_cases h1 : 1073741824 < win
  · have h1i : (1073741824 : Int) < win := by omega
    by_cases h2 : 512 < most
    · have h2i : (512 : Int) < most := by omega
      have HFI := Lib.hid (fun (o : Obj) => (hA o).opened ⟨k, tg, fr, win, most, text, ask, runs⟩ 1073741824 512 (by show _ = ((min win 1073741824 : Nat) : Int); omega) (by show _ = ((min most 512 : Nat) : Int); omega))
      clear h hA hwm hmm
      go_enter Try.func52, Try.ntmps52
      go_wp2
      go_end0
      exact ⟨rfl, CmP.al (HFI.out _)⟩
    · have h2i : ¬ (512 : Int) < most := by omega
      have hmi : (most : Int) ≤ 512 := by omega
      have HFI := Lib.hid (fun (o : Obj) => (hA o).opened ⟨k, tg, fr, win, most, text, ask, runs⟩ 1073741824 most (by show _ = ((min win 1073741824 : Nat) : Int); omega) (by show _ = ((min most 512 : Nat) : Int); omega))
      clear h hA hwm hmm
      go_enter Try.func52, Try.ntmps52
      go_wp2
      go_end0
      exact ⟨rfl, CmP.al (HFI.out _)⟩
  · have h1i : ¬ (1073741824 : Int) < win := by omega
    have hwi : (win : Int) ≤ 1073741824 := by omega
    by_cases h2 : 512 < most
    · have h2i : (512 : Int) < most := by omega
      have HFI := Lib.hid (fun (o : Obj) => (hA o).opened ⟨k, tg, fr, win, most, text, ask, runs⟩ win 512 (by show _ = ((min win 1073741824 : Nat) : Int); omega) (by show _ = ((min most 512 : Nat) : Int); omega))
      clear h hA hwm hmm
      go_enter Try.func52, Try.ntmps52
      go_wp2
      go_end0
      exact ⟨rfl, CmP.al (HFI.out _)⟩
    · have h2i : ¬ (512 : Int) < most := by omega
      have hmi : (most : Int) ≤ 512 := by omega
      have HFI := Lib.hid (fun (o : Obj) => (hA o).opened ⟨k, tg, fr, win, most, text, ask, runs⟩ win most (by show _ = ((min win 1073741824 : Nat) : Int); omega) (by show _ = ((min most 512 : Nat) : Int); omega))
      clear h hA hwm hmm
      go_enter Try.func52, Try.ntmps52
      go_wp2
      go_end0
      exact ⟨rfl, CmP.al (HFI.out _)⟩
def MsgOk (m : Msg) : Prop := m.frm < 4294967296 ∧ m.win < 4294967296 ∧ m.most < 4294967296 ∧ m.text.length ≤ 16384
set_option maxRecDepth 20000 in
set_option maxHeartbeats 2000000 in
theorem admit_any (B b : Nat) (F : Nat → Prop) (c : Ch) (m : Msg) (t : ByteArray) (w : World) (h0 : Cm B w b F c) (ht : t.toList = m.text) (hm : MsgOk m) (hn : c.out.length ≤ 80000000) :
    Calls Try.prog 51 #[.pointer (some ⟨b, 0, none⟩), .agg (cellsM m t).toArray] w (DoneP B b F w (admitS c m)) := by
  obtain ⟨vw, vc, vo, rows, h⟩ := id h0
  obtain ⟨k, tg, fr, win, most, text, ask, runs⟩ := m
  unfold MsgOk at hm
  simp only [] at ht hm
  show Calls Try.prog 51 #[.pointer (some ⟨b, 0, none⟩), .agg #[.int .u8 (k : Int), .int .u32 (tg : Int), .int .u32 (fr : Int), .int .u32 (win : Int), .int .u32 (most : Int), .string t, .bool ask, .bool runs]] w _
  have HC0 := Lib.hid (fun (o : Obj) => h0.kp0 ((Kp.refl _ w).alloc o))
  have HM := Lib.hid hm
  have HN := Lib.hid hn
  have hc1 := fun o => (h.kp0 ((Kp.refl _ w).alloc o)).c1
  obtain ⟨st, hst⟩ : ∃ x, x = c.st := ⟨_, rfl⟩
  simp only [← hst] at hc1
  have HST := Lib.hid hst
  clear h h0 hm hn hst
  by_cases h1 : st = 0
  · have h1b : ((st : Int) != 0) = false := by rw [bne_eq_false_iff_eq]; omega
    by_cases h2 : text = sessionB
    · have h2b : (t.toList == ([115, 101, 115, 115, 105, 111, 110] : List UInt8)) = true := by rw [ht, h2]; rfl
      have h2c : (t.toList != ([115, 101, 115, 115, 105, 111, 110] : List UInt8)) = false := by rw [bne, h2b]; rfl
      by_cases h3 : most = 0
      · have h3b : ((most : Int) == 0) = true := by rw [beq_iff_eq]; omega
        have HE : Hid (admitS c ⟨k, tg, fr, win, most, text, ask, runs⟩ = sayS c (refuseB fr)) := Lib.hid (by unfold admitS; rw [if_pos (by rw [h3]; simp)])
        clear ht h1 h2 h3
        go_enter Try.func51, Try.ntmps51
        go_wp2_with fail
        refine (refuse_any _ fr _ rfl HM.out.1).mono ?_
        rintro e w1 ⟨v1, rfl, ho1, hk1⟩
        have HO1 := Lib.hid ho1
        have HK1 := Lib.hid hk1
        clear ho1 hk1
        go_wp2_with fail
        refine (say_own B b F c v1 _ _ _ (HC0.out _) HK1.out HO1.out (by have := HN.out; omega)).mono ?_
        rintro e w2 ⟨rfl, h2⟩
        have H2 := Lib.hid h2
        clear h2
        go_wp2
        ((try simp only [Exit.inBlock, Exit.then]); refine bodyPost_ret (results_none rfl _ _ _) rfl ?_)
        rw [HE.out]
        exact ⟨rfl, CmP.al H2.out⟩
      · have h3b : ((most : Int) == 0) = false := by rw [beq_eq_false_iff_ne]; omega
        have HE : Hid (admitS c ⟨k, tg, fr, win, most, text, ask, runs⟩ = sayS (openS c ⟨k, tg, fr, win, most, text, ask, runs⟩) (confirmB fr)) := Lib.hid (by
          unfold admitS
          rw [if_neg (by rw [← HST.out, h1]; simp [h2, h3])])
        clear ht h1 h2 h3
        go_enter Try.func51, Try.ntmps51
        go_wp2_with fail
        refine (open_any B b F c ⟨k, tg, fr, win, most, text, ask, runs⟩ t _ (HC0.out _) HM.out.2.1 HM.out.2.2.1).mono ?_
        rintro e w1 ⟨rfl, F1, hC1, hF1, hK1⟩
        obtain ⟨_, _, _, _, hV1⟩ := id hC1
        have hd3 : w1.cell? ⟨b, 3, none⟩ = some (.int .u32 (fr : Int)) := hV1.c3
        have HC1 := Lib.hid hC1
        have HF1 := Lib.hid hF1
        have HK1 := Lib.hid hK1
        clear hC1 hF1 hK1 hV1 hc1
        go_wp2_with fail
        refine (confirm_any _ fr _ rfl HM.out.1).mono ?_
        rintro e w2 ⟨v2, rfl, ho2, hk2⟩
        have HO2 := Lib.hid ho2
        have HK2 := Lib.hid hk2
        clear ho2 hk2 hd3
        go_wp2_with fail
        refine (say_own B b F1 _ v2 _ _ _ HC1.out HK2.out HO2.out (by have := HN.out; show c.out.length ≤ _; omega)).mono ?_
        rintro e w3 ⟨rfl, h3⟩
        have H3 := Lib.hid h3
        clear h3
        go_wp2
        go_end0
        rw [HE.out]
        exact ⟨rfl, CmP.al (CmP.trans HF1.out HK1.out H3.out)⟩
    · have h2b : (t.toList == ([115, 101, 115, 115, 105, 111, 110] : List UInt8)) = false := by rw [ht, beq_eq_false_iff_ne]; exact h2
      have h2c : (t.toList != ([115, 101, 115, 115, 105, 111, 110] : List UInt8)) = true := by rw [bne, h2b]; rfl
      have HE : Hid (admitS c ⟨k, tg, fr, win, most, text, ask, runs⟩ = sayS c (refuseB fr)) := Lib.hid (by unfold admitS; rw [if_pos (by simp [h2])])
      clear ht h1 h2
      go_enter Try.func51, Try.ntmps51
      go_wp2_with fail
      refine (refuse_any _ fr _ rfl HM.out.1).mono ?_
      rintro e w1 ⟨v1, rfl, ho1, hk1⟩
      have HO1 := Lib.hid ho1
      have HK1 := Lib.hid hk1
      clear ho1 hk1
      go_wp2_with fail
      refine (say_own B b F c v1 _ _ _ (HC0.out _) HK1.out HO1.out (by have := HN.out; omega)).mono ?_
      rintro e w2 ⟨rfl, h2⟩
      have H2 := Lib.hid h2
      clear h2
      go_wp2
      ((try simp only [Exit.inBlock, Exit.then]); refine bodyPost_ret (results_none rfl _ _ _) rfl ?_)
      rw [HE.out]
      exact ⟨rfl, CmP.al H2.out⟩
  · have h1b : ((st : Int) != 0) = true := by rw [bne_iff_ne]; omega
    have HE : Hid (admitS c ⟨k, tg, fr, win, most, text, ask, runs⟩ = sayS c (refuseB fr)) := Lib.hid (by unfold admitS; rw [if_pos (by rw [← HST.out]; simp [h1])])
    clear ht h1
    go_enter Try.func51, Try.ntmps51
    go_wp2_with fail
    refine (refuse_any _ fr _ rfl HM.out.1).mono ?_
    rintro e w1 ⟨v1, rfl, ho1, hk1⟩
    have HO1 := Lib.hid ho1
    have HK1 := Lib.hid hk1
    clear ho1 hk1
    go_wp2_with fail
    refine (say_own B b F c v1 _ _ _ (HC0.out _) HK1.out HO1.out (by have := HN.out; omega)).mono ?_
    rintro e w2 ⟨rfl, h2⟩
    have H2 := Lib.hid h2
    clear h2
    go_wp2
    ((try simp only [Exit.inBlock, Exit.then]); refine bodyPost_ret (results_none rfl _ _ _) rfl ?_)
    rw [HE.out]
    exact ⟨rfl, CmP.al H2.out⟩
theorem CmV.rdy {B : Nat} {w : World} {b : Nat} {F : Nat → Prop} {vw vc vo : Value} {rows : List Value} {c : Ch} (h : CmV B w b F vw vc vo rows c) (x : Bool) : CmP B b F w { c with rd := x } (w.setCell ⟨b, 2, none⟩ (.bool x)) := by
  have h1 := h.set 2 (.bool x) { c with rd := x } rfl rfl rfl rfl
  exact ⟨F, h1.1.cm, fun _ h => .inl h, h1.2⟩
end Go.Proofs.Ytbifdckmkogbgaa
