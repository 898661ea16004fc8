/- Package chans: what is said, what goes out, closing. -/
import Derived.Test.YtbifdckmkogbgaaChA
namespace Go.Proofs.Ytbifdckmkogbgaa
open Go Go.RowKit
def SayP (B b : Nat) (F : Nat → Prop) (w : World) (v : Value) (c' : Ch) (e : Ending) (w' : World) : Prop :=
  e = .returned (.tuple #[]) ∧ ∃ F', Cm B w' b F' c' ∧ (∀ i, F' i → F i ∨ v.ownBlock = some i ∨ w.heap.size ≤ i) ∧ Kp F w w'
def DoneP (B b : Nat) (F : Nat → Prop) (w : World) (c' : Ch) (e : Ending) (w' : World) : Prop := e = .returned (.tuple #[]) ∧ CmP B b F w c' w'
set_option maxRecDepth 20000 in
set_option maxHeartbeats 1000000 in
theorem say_any (B b : Nat) (F : Nat → Prop) (c : Ch) (v : Value) (l : List UInt8) (w : World) (h : Cm B w b F c) (hv : Rd w v (bys l)) (hvb : ∀ g, v.ownBlock = some g → B ≤ g ∧ g < w.heap.size ∧ ¬ F g) (hn : c.out.length ≤ 100000000) :
    Calls Try.prog 28 #[.pointer (some ⟨b, 0, none⟩), v] w (SayP B b F w v (sayS c l)) := by
  obtain ⟨vw, vc, vo, rows, h⟩ := h
  have hrl : rows.length = c.out.length := h.rr.1
  obtain ⟨a0, k0, rfl, _, _, _⟩ := hv.shapeB
  have H := Lib.hid h
  have HV := Lib.hid hv
  have HVB := Lib.hid hvb
  have hc9 := h.c9
  have HO := Lib.hid (h.oo.keep0 ((Kp.refl _ w).alloc (.cells #[.slice a0 l.length k0] 33)))
  have HR := Lib.hid (Rd.lit w #[.slice a0 l.length k0] 33 (0, 0) 1 rfl (by decide))
  have HL : Hid (rows.length + [Value.slice a0 l.length k0].length ≤ maxLen ∧ (rows.length + [Value.slice a0 l.length k0].length) * 24 ≤ 140737488355328) := Lib.hid (by
    simp only [List.length_cons, List.length_nil]
    unfold maxLen
    omega)
  have hones : ∀ u ∈ [Value.slice a0 l.length k0], u.oneCell' = true := by simp [Value.oneCell']
  have HN := Lib.hid hones
  have hf9 := h.fz 9
  have HLT := Lib.hid h.blk.lt
  clear h hv hvb hn hrl hones
  go_enter Try.func28, Try.ntmps28
  go_wp2_with (refine wl_append_ow (o := ⟨some 11, _, _, _, _, _⟩) rfl _ _ 43 rfl Try.underlying43 (infoR1 w) rfl rfl rfl HO.out HR.out HN.out HL.out.1 HL.out.2 (Nat.zero_le _) ?_)
  intro v1 w1 ho hk hb
  have hk0 : Kp (fun g => vo.ownBlock = some g) w w1 := (((Kp.refl (fun _ => False) w).alloc _).mono (fun _ _ h => h.elim)).tr hk
  have hb0 : ∀ g, v1.ownBlock = some g → vo.ownBlock = some g ∨ w.heap.size ≤ g := fun g hg => (hb g hg).imp id (fun h => by omega)
  have HD := Lib.hid (H.out.setO hk0 ho hb0 HV.out HVB.out)
  obtain ⟨a1, n1, k1, rfl⟩ := ho.sl
  have hf1 : w1.frozen? ⟨b, 9, none⟩ = false := hk0.frozen' HLT.out hf9 (fun e => (H.out.ao b e).2.1 rfl)
  have hcx : w1.cell? ⟨b, 9, none⟩ = some vo := hk0.cell hc9 (fun e => (H.out.ao b e).2.1 rfl)
  clear ho hk hb hk0 hb0 hc9 hf9
  go_wp2
  go_end0
  exact ⟨rfl, HD.out⟩
theorem say_own (B b : Nat) (F : Nat → Prop) (c : Ch) (v : Value) (l : List UInt8) (w w1 : World) (h : Cm B w b F c) (hk : Kp0 w w1) (ho : Own w.heap.size 5 w1 v (bys l)) (hn : c.out.length ≤ 100000000) :
    Calls Try.prog 28 #[.pointer (some ⟨b, 0, none⟩), v] w1 (DoneP B b F w (sayS c l)) := by
  have hF : ∀ i, F i → B ≤ i ∧ i < w.heap.size := by obtain ⟨_, _, _, _, h⟩ := h; exact h.fB
  have hB : B ≤ w.heap.size := by obtain ⟨_, _, _, _, h⟩ := h; exact h.base
  have hs := hk.size
  refine (say_any B b F c v l w1 (h.kp0 hk) ho.rd (fun g hg => ⟨by have := (ho.lt g hg).1; omega, (ho.lt g hg).2, fun hf => by have h1 := (ho.lt g hg).1; have h2 := (hF g hf).2; omega⟩) hn).mono ?_
  rintro e w' ⟨rfl, F', h1, h2, h3⟩
  refine ⟨rfl, F', h1, fun i hi => ?_, (hk.nil F).tr h3⟩
  rcases h2 i hi with h4 | h4 | h4
  · exact .inl h4
  · exact .inr (ho.lt i h4).1
  · exact .inr (by omega)
/-- A message made and said. -/
theorem done_trans {B b : Nat} {F F' : Nat → Prop} {w w1 w2 : World} {c : Ch} {e : Ending} (hF : ∀ i, F' i → F i ∨ w.heap.size ≤ i) (hk : Kp F w w1) (h : DoneP B b F' w1 c e w2) : DoneP B b F w c e w2 := ⟨h.1, CmP.trans hF hk h.2⟩
theorem new_any (sv : Bool) (w : World) : Calls Try.prog 10 #[.bool sv] w fun e w' => e = .returned (.pointer (some ⟨w.heap.size, 0, none⟩)) ∧ (∀ B, B ≤ w.heap.size → Cm B w' w.heap.size (fun i => i = w.heap.size) (newS sv)) ∧ Kp0 w w' := by
  go_enter Try.func10, Try.ntmps10
  go_wp2
  go_ret
  refine ⟨rfl, fun B hB => ⟨.slice none 0 0, .slice none 0 0, .slice none 0 0, [], blk0 w _ (cellsC (newS sv) (.slice none 0 0) (.slice none 0 0) (.slice none 0 0)), Ow.nil _ _ _, Own.nil _ _ _, Ow.nil _ _ _, RowsR.nil _, rfl, ?_, ?_, ?_, ?_, ?_⟩, (Kp.refl _ w).alloc _⟩
  · intro g hg; cases hg
  · intro g hg; cases hg
  · intro g hg; cases hg
  · intro r hr; cases hr
  · intro i hi
    subst hi
    exact ⟨hB, by show _ < (w.heap.push _).size; rw [Array.size_push]; omega⟩
theorem state_any (B b : Nat) (F : Nat → Prop) (c : Ch) (w : World) (h : Cm B w b F c) : Calls Try.prog 26 #[.pointer (some ⟨b, 0, none⟩)] w fun e w' => e = .returned (.int .i64 c.st) ∧ w = w' := by
  obtain ⟨vw, vc, vo, rows, h⟩ := h
  have hc := h.c1
  clear h
  go_enter Try.func26, Try.ntmps26
  go_wp2
  go_ret
  exact ⟨rfl, rfl⟩
theorem ready_any (B b : Nat) (F : Nat → Prop) (c : Ch) (w : World) (h : Cm B w b F c) : Calls Try.prog 27 #[.pointer (some ⟨b, 0, none⟩)] w fun e w' => e = .returned (.bool c.rd) ∧ w = w' := by
  obtain ⟨vw, vc, vo, rows, h⟩ := h
  have hc := h.c2
  clear h
  go_enter Try.func27, Try.ntmps27
  go_wp2
  go_ret
  exact ⟨rfl, rfl⟩
theorem pending_any (B b : Nat) (F : Nat → Prop) (c : Ch) (w : World) (h : Cm B w b F c) : Calls Try.prog 15 #[.pointer (some ⟨b, 0, none⟩)] w fun e w' => e = .returned (.int .i64 c.wa.length) ∧ w = w' := by
  obtain ⟨vw, vc, vo, rows, h⟩ := h
  have hc := h.c7
  obtain ⟨ao, cap, rfl, _, _, _⟩ := h.ow.shapeB
  clear h
  go_enter Try.func15, Try.ntmps15
  go_wp2
  go_ret
  exact ⟨rfl, rfl⟩
/-- What goes out is handed over. -/
def OutP (B b : Nat) (F : Nat → Prop) (w : World) (c : Ch) (e : Ending) (w' : World) : Prop :=
  ∃ v rows F', e = .returned v ∧ Rd w' v rows ∧ RowsR w' rows c.out ∧ Cm B w' b F' { c with out := [] } ∧ (∀ i, F' i → F i) ∧ (∀ g, v.ownBlock = some g → F g ∧ ¬ F' g) ∧ (∀ r, r ∈ rows → ∀ g, r.ownBlock = some g → F g ∧ ¬ F' g) ∧ Kp (fun i => i = b) w w' ∧ F' b
theorem CmV.takeO {B : Nat} {w : World} {b : Nat} {F : Nat → Prop} {vw vc vo : Value} {rows : List Value} {c : Ch} (h : CmV B w b F vw vc vo rows c) :
    OutP B b F w c (.returned vo) (w.setCell ⟨b, 9, none⟩ (.slice none 0 0)) := by
  have hs : Kp (fun g => g = b) w (w.setCell ⟨b, 9, none⟩ (.slice none 0 0)) := (Kp.refl (fun g => g = b) w).setCell (p := ⟨b, 9, none⟩) (fun _ => rfl) _
  refine ⟨vo, rows, fun i => F i ∧ vo.ownBlock ≠ some i ∧ ∀ r, r ∈ rows → r.ownBlock ≠ some i, rfl, h.oo.rd.keep hs (fun g hg _ => (h.ao g hg).2.1), h.rr.keep hs (fun v hv g hg => (h.ar v hv g hg).2.1), ⟨vw, vc, .slice none 0 0, [], h.blk.set' 9 _, ?_, ?_, Ow.nil _ _ _, RowsR.nil _, ?_, ?_, ?_, ?_, ?_, ?_⟩, fun i hi => hi.1, fun g hg => ⟨(h.ao g hg).1, fun hh => hh.2.1 hg⟩, fun r hr g hg => ⟨(h.ar r hr g hg).1, fun hh => hh.2.2 r hr hg⟩, hs, ?_⟩
  · exact h.ow.keep hs (fun g hg _ _ => (h.aw g hg).2)
  · exact h.oc.keep hs (fun g hg _ _ => (h.ac g hg).2.1)
  · exact ⟨h.fb, fun e => (h.ao b e).2.1 rfl, fun r hr e => (h.ar r hr b e).2.1 rfl⟩
  · exact fun g hg => ⟨⟨(h.aw g hg).1, fun e => (h.ao g e).2.2.1 hg, fun r hr e => (h.ar r hr g e).2.2.1 hg⟩, (h.aw g hg).2⟩
  · exact fun g hg => ⟨⟨(h.ac g hg).1, fun e => (h.ao g e).2.2.2 hg, fun r hr e => (h.ar r hr g e).2.2.2.1 hg⟩, (h.ac g hg).2⟩
  · intro g hg; cases hg
  · intro r hr; cases hr
  · exact fun i hi => ⟨(h.fB i hi.1).1, Nat.lt_of_lt_of_le (h.fB i hi.1).2 hs.size⟩
  · exact ⟨h.fb, fun e => (h.ao b e).2.1 rfl, fun r hr e => (h.ar r hr b e).2.1 rfl⟩
theorem out_any (B b : Nat) (F : Nat → Prop) (c : Ch) (w : World) (h : Cm B w b F c) : Calls Try.prog 20 #[.pointer (some ⟨b, 0, none⟩)] w (OutP B b F w c) := by
  obtain ⟨vw, vc, vo, rows, h⟩ := h
  have hc := h.c9
  have hf := h.fz 9
  have H := Lib.hid h.takeO
  clear h
  go_enter Try.func20, Try.ntmps20
  go_wp2
  go_ret
  exact H.out
end Go.Proofs.Ytbifdckmkogbgaa
