/- Package chans: messages read. -/
import Derived.Test.YtbifdckmkogbgaaChE
namespace Go.Proofs.Ytbifdckmkogbgaa
open Go Go.RowKit
def cellsM (m : Msg) (t : ByteArray) : List Value := [.int .u8 m.kind, .int .u32 m.tgt, .int .u32 m.frm, .int .u32 m.win, .int .u32 m.most, .string t, .bool m.ask, .bool m.runs]
/-- A message in memory. -/
def Mb (w : World) (g : Nat) (m : Msg) : Prop := ∃ t : ByteArray, t.toList = m.text ∧ Blk w g 58 (cellsM m t)
theorem Mb.keep {w w1 : World} {g : Nat} {m : Msg} (h : Mb w g m) {S : Nat → Prop} (hk : Kp S w w1) (hs : ¬ S g) : Mb w1 g m := by
  obtain ⟨t, h1, h2⟩ := h
  exact ⟨t, h1, h2.keep hk hs⟩
theorem Mb.cells {w : World} {g : Nat} {m : Msg} (h : Mb w g m) : ∃ t : ByteArray, t.toList = m.text ∧ w.cell? ⟨g, 0, none⟩ = some (.int .u8 m.kind) ∧ w.cell? ⟨g, 1, none⟩ = some (.int .u32 m.tgt) ∧ w.cell? ⟨g, 2, none⟩ = some (.int .u32 m.frm) ∧ w.cell? ⟨g, 3, none⟩ = some (.int .u32 m.win) ∧ w.cell? ⟨g, 4, none⟩ = some (.int .u32 m.most) ∧ w.cell? ⟨g, 5, none⟩ = some (.string t) ∧ w.cell? ⟨g, 6, none⟩ = some (.bool m.ask) ∧ w.cell? ⟨g, 7, none⟩ = some (.bool m.runs) ∧ ∀ i, w.frozen? ⟨g, i, none⟩ = false := by
  obtain ⟨t, h1, h2⟩ := h
  exact ⟨t, h1, h2.cellV 0 rfl, h2.cellV 1 rfl, h2.cellV 2 rfl, h2.cellV 3 rfl, h2.cellV 4 rfl, h2.cellV 5 rfl, h2.cellV 6 rfl, h2.cellV 7 rfl, fun i => blk_frozen h2 i⟩
theorem Mb.set {w : World} {g : Nat} {m m' : Msg} (h : Mb w g m) (i : Nat) (v : Value) (hl : ∀ t, (cellsM m t).set i v = cellsM m' t) (ht : m'.text = m.text) : Mb (w.setCell ⟨g, i, none⟩ v) g m' := by
  obtain ⟨t, h1, h2⟩ := h
  refine ⟨t, by rw [ht]; exact h1, ?_⟩
  have := h2.set' i v
  rw [hl] at this
  exact this
theorem Mb.setT {w : World} {g : Nat} {m : Msg} (h : Mb w g m) (s : ByteArray) (l : List UInt8) (hs : s.toList = l) : Mb (w.setCell ⟨g, 5, none⟩ (.string s)) g { m with text := l } := by
  obtain ⟨t, h1, h2⟩ := h
  exact ⟨s, hs, h2.set' 5 (.string s)⟩
/-- A message and a reader. -/
structure MR (w : World) (g b : Nat) (m : Msg) (st : RS) : Prop where
  m : Mb w g m
  r : Rs w b st
  ne : g ≠ b
theorem MR.read {w w1 : World} {g b : Nat} {m : Msg} {st st' : RS} (h : MR w g b m st) (hr : Rs w1 b st') (hk : Kp (At b) w w1) : MR w1 g b m st' := ⟨h.m.keep hk h.ne, hr, h.ne⟩
theorem MR.put {w : World} {g b : Nat} {m m' : Msg} {st : RS} (h : MR w g b m st) (i : Nat) (v : Value) (hl : ∀ t, (cellsM m t).set i v = cellsM m' t) (ht : m'.text = m.text) : MR (w.setCell ⟨g, i, none⟩ v) g b m' st :=
  ⟨h.m.set i v hl ht, h.r.keep ((Kp.refl (fun i => i = g) w).setCell (p := ⟨g, i, none⟩) (fun _ => rfl) _) (fun e => h.ne e.symm), h.ne⟩
theorem MR.putT {w : World} {g b : Nat} {m : Msg} {st : RS} (h : MR w g b m st) (s : ByteArray) (l : List UInt8) (hs : s.toList = l) : MR (w.setCell ⟨g, 5, none⟩ (.string s)) g b { m with text := l } st :=
  ⟨h.m.setT s l hs, h.r.keep ((Kp.refl (fun i => i = g) w).setCell (p := ⟨g, 5, none⟩) (fun _ => rfl) _) (fun e => h.ne e.symm), h.ne⟩
abbrev GB (g b : Nat) : Nat → Prop := fun i => i = g ∨ i = b
theorem kp_at {g b : Nat} {w w1 : World} (h : Kp (At b) w w1) : Kp (GB g b) w w1 := h.mono (fun i _ h => .inr h)
theorem kp_put {g b : Nat} {w w1 : World} (h : Kp (GB g b) w w1) (i : Nat) (v : Value) : Kp (GB g b) w (w1.setCell ⟨g, i, none⟩ v) := h.setCell (p := ⟨g, i, none⟩) (fun _ => .inl rfl) v
set_option maxRecDepth 20000 in
set_option maxHeartbeats 1000000 in
theorem readB_any (g b : Nat) (m : Msg) (st : RS) (w : World) (h : MR w g b m st) :
    Calls Try.prog 46 #[.pointer (some ⟨g, 0, none⟩), .pointer (some ⟨b, 0, none⟩)] w fun e w' => e = .returned (.tuple #[]) ∧ MR w' g b (bndS m st).1 (bndS m st).2 ∧ Kp (GB g b) w w' := by
  have H := Lib.hid h
  clear h
  go_enter Try.func46, Try.ntmps46
  go_wp2_with fail
  refine (u32_rs b st _ H.out.r).mono ?_
  rintro e w1 ⟨rfl, hr, hk⟩
  have H1 := Lib.hid (H.out.read hr hk)
  have K1 : Hid (Kp (GB g b) w w1) := Lib.hid (kp_at hk)
  obtain ⟨t, _, _, _, hc2, _, _, _, _, _, hfz⟩ := H1.out.m.cells
  have hf2 := hfz 2
  clear hr hk hfz
  go_wp2_with fail
  have H2 := Lib.hid (H1.out.put (m' := { m with frm := (u32S st).1 }) 2 (.int .u32 ((u32S st).1 : Int)) (fun _ => rfl) rfl)
  have K2 := Lib.hid (kp_put K1.out 2 (.int .u32 ((u32S st).1 : Int)))
  generalize (w1.setCell ⟨g, 2, none⟩ (.int .u32 ((u32S st).1 : Int))) = w2 at H2 K2 ⊢
  clear hc2 hf2 H1 K1
  refine (u32_rs b _ _ H2.out.r).mono ?_
  rintro e w3 ⟨rfl, hr, hk⟩
  have H3 := Lib.hid (H2.out.read hr hk)
  have K3 : Hid (Kp (GB g b) w w3) := Lib.hid (K2.out.tr (kp_at hk))
  obtain ⟨t, _, _, _, _, hc3, _, _, _, _, hfz⟩ := H3.out.m.cells
  have hf3 := hfz 3
  clear hr hk hfz
  go_wp2_with fail
  have H4 := Lib.hid (H3.out.put (m' := { m with frm := (u32S st).1, win := (u32S (u32S st).2).1 }) 3 (.int .u32 ((u32S (u32S st).2).1 : Int)) (fun _ => rfl) rfl)
  have K4 := Lib.hid (kp_put K3.out 3 (.int .u32 ((u32S (u32S st).2).1 : Int)))
  generalize (w3.setCell ⟨g, 3, none⟩ (.int .u32 ((u32S (u32S st).2).1 : Int))) = w4 at H4 K4 ⊢
  clear hc3 hf3 H3 K3
  refine (u32_rs b _ _ H4.out.r).mono ?_
  rintro e w5 ⟨rfl, hr, hk⟩
  have H5 := Lib.hid (H4.out.read hr hk)
  have K5 : Hid (Kp (GB g b) w w5) := Lib.hid (K4.out.tr (kp_at hk))
  obtain ⟨t, _, _, _, _, _, hc4, _, _, _, hfz⟩ := H5.out.m.cells
  have hf4 := hfz 4
  clear hr hk hfz
  go_wp2_with fail
  go_end0
  exact ⟨rfl, H5.out.put (m' := (bndS m st).1) 4 _ (fun _ => rfl) rfl, kp_put K5.out 4 _⟩
set_option maxRecDepth 20000 in
set_option maxHeartbeats 1000000 in
theorem readQ_any (g b : Nat) (m : Msg) (st : RS) (w : World) (h : MR w g b m st) (hm : m.runs = false) :
    Calls Try.prog 47 #[.pointer (some ⟨g, 0, none⟩), .pointer (some ⟨b, 0, none⟩)] w fun e w' => e = .returned (.tuple #[]) ∧ MR w' g b (reqS m st).1 (reqS m st).2 ∧ Kp (GB g b) w w' := by
  have H := Lib.hid h
  have HM := Lib.hid hm
  clear h hm
  obtain ⟨⟨n, s1⟩, hn⟩ : ∃ r, r = textS st := ⟨_, rfl⟩
  obtain ⟨⟨a, s2⟩, ha⟩ : ∃ r, r = flagS s1 := ⟨_, rfl⟩
  have HN := Lib.hid hn
  have HA := Lib.hid ha
  clear hn ha
  go_enter Try.func47, Try.ntmps47
  go_wp2_with fail
  refine (text_rs b st _ H.out.r).mono ?_
  rw [← HN.out]
  rintro e w1 ⟨tn, rfl, htn, hr, hk⟩
  have H1 := Lib.hid (H.out.read hr hk)
  have K1 : Hid (Kp (GB g b) w w1) := Lib.hid (kp_at hk)
  have HTN := Lib.hid htn
  clear hr hk htn
  simp only [] at H1 HTN
  go_wp2_with fail
  refine (flag_rs b s1 _ H1.out.r).mono ?_
  rintro e w2 ⟨rfl, hr, hk⟩
  have he : decide (¬ (byteS s1).1 = 0) = a := by have := congrArg Prod.fst HA.out; exact this.symm
  have he2 : (byteS s1).2 = s2 := by have := congrArg Prod.snd HA.out; exact this.symm
  rw [he]
  rw [he2] at hr
  have H2 := Lib.hid (H1.out.read hr hk)
  have K2 : Hid (Kp (GB g b) w w2) := Lib.hid (K1.out.tr (kp_at hk))
  obtain ⟨t, _, _, _, _, _, _, _, hc6, _, hfz⟩ := H2.out.m.cells
  have hf6 := hfz 6
  clear hr hk hfz H1 K1 he he2
  by_cases hs : n = subsystemB
  · have hsb : (tn.toList == ([115, 117, 98, 115, 121, 115, 116, 101, 109] : List UInt8)) = true := by rw [HTN.out, hs]; rfl
    obtain ⟨⟨q, s3⟩, hq⟩ : ∃ r, r = textS s2 := ⟨_, rfl⟩
    have HQ := Lib.hid hq
    have HRS : Hid (reqS m st = ({ m with ask := a, runs := decide (q = netconfB) && decide (s3 = some []) }, s3)) := Lib.hid (by
      unfold reqS
      rw [← HN.out]
      simp only []
      rw [if_pos hs, ← HA.out]
      simp only []
      rw [← HQ.out])
    clear hs hq
    go_wp2_with fail
    have H3 := Lib.hid (H2.out.put (m' := { m with ask := a }) 6 (.bool a) (fun _ => rfl) rfl)
    have K3 := Lib.hid (kp_put K2.out 6 (.bool a))
    generalize (w2.setCell ⟨g, 6, none⟩ (.bool a)) = w3 at H3 K3 ⊢
    clear hc6 hf6 H2 K2
    refine (text_rs b s2 _ H3.out.r).mono ?_
    rw [← HQ.out]
    rintro e w4 ⟨tq, rfl, htq, hr, hk⟩
    have H4 := Lib.hid (H3.out.read hr hk)
    have K4 : Hid (Kp (GB g b) w w4) := Lib.hid (K3.out.tr (kp_at hk))
    obtain ⟨t, _, _, _, _, _, _, _, _, hc7, hfz⟩ := H4.out.m.cells
    have hf7 := hfz 7
    have HTQ := Lib.hid htq
    clear hr hk hfz H3 K3 htq
    simp only [] at H4 HTQ
    by_cases hn2 : q = netconfB
    · have hnb : (tq.toList == ([110, 101, 116, 99, 111, 110, 102] : List UInt8)) = true := by rw [HTQ.out, hn2]; rfl
      have HR2 : Hid (reqS m st = ({ m with ask := a, runs := decide (s3 = some []) }, s3)) := Lib.hid (by rw [HRS.out, decide_eq_true hn2, Bool.true_and])
      clear hn2
      go_wp2_with fail
      refine (end_rs b s3 _ H4.out.r).mono ?_
      rintro e w5 ⟨rfl, rfl⟩
      obtain ⟨x, hx⟩ : ∃ x, x = decide (s3 = some []) := ⟨_, rfl⟩
      have HX := Lib.hid hx
      rw [← hx]
      clear hx
      go_wp2
      go_end0
      rw [HR2.out, ← HX.out]
      exact ⟨rfl, H4.out.put (m' := { m with ask := a, runs := x }) 7 (.bool x) (fun _ => rfl) rfl, kp_put K4.out 7 _⟩
    · have hnb : (tq.toList == ([110, 101, 116, 99, 111, 110, 102] : List UInt8)) = false := by rw [HTQ.out, beq_eq_false_iff_ne]; exact hn2
      have HR2 : Hid (reqS m st = ({ m with ask := a, runs := false }, s3)) := Lib.hid (by rw [HRS.out, decide_eq_false hn2, Bool.false_and])
      clear hn2
      go_wp2
      go_end0
      rw [HR2.out]
      exact ⟨rfl, H4.out.put (m' := { m with ask := a, runs := false }) 7 (.bool false) (fun _ => rfl) rfl, kp_put K4.out 7 _⟩
  · have hsb : (tn.toList == ([115, 117, 98, 115, 121, 115, 116, 101, 109] : List UInt8)) = false := by rw [HTN.out, beq_eq_false_iff_ne]; exact hs
    have HRS : Hid (reqS m st = ({ m with ask := a }, s2)) := Lib.hid (by
      unfold reqS
      rw [← HN.out]
      simp only []
      rw [if_neg hs, ← HA.out])
    clear hs
    go_wp2
    go_end0
    rw [HRS.out]
    exact ⟨rfl, H2.out.put (m' := { m with ask := a }) 6 (.bool a) (fun _ => rfl) rfl, kp_put K2.out 6 _⟩
end Go.Proofs.Ytbifdckmkogbgaa
