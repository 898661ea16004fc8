/- A decoder in memory: what it reads as; what stays. -/
import Derived.Test.YtmmbhmfbhleglaaDoorChecked
import Derived.Test.YtmmbhmfbhleglaaDoorOw
import Derived.Test.YtmmbhmfbhleglaaDoorFS
import Derived.Test.YtmmbhmfbhleglaaDoorRw
import Derived.Test.YtmmbhmfbhleglaaDoorRegs
import Derived.Deep.DeepCutAuto
namespace Go.Proofs.YtmmbhmfbhleglaaDoor
open Go Go.RowKit
/-- The blocks that may change: those from B on, but for Z. -/
abbrev FB (B : Nat) (Z : Nat → Prop) : Nat → Prop := fun i => B ≤ i ∧ ¬ Z i
structure DcV (B : Nat) (Z : Nat → Prop) (w : World) (b : Nat) (vw vp : Value) (s : St) : Prop where
  blk : Blk w b 26 [vw, vp, .bool s.ch, .bool s.ov]
  ow : Ow B 5 w vw (bys s.W)
  op : Ow B 5 w vp (bys s.M)
  ge : B ≤ b
  nz : ¬ Z b
  aw : ∀ g, vw.ownBlock = some g → g ≠ b ∧ ¬ Z g ∧ vp.ownBlock ≠ some g
  ap : ∀ g, vp.ownBlock = some g → g ≠ b ∧ ¬ Z g
  zs : ∀ i, Z i → i < w.heap.size
def Dc (B : Nat) (Z : Nat → Prop) (w : World) (b : Nat) (s : St) : Prop := ∃ vw vp, DcV B Z w b vw vp s
section
variable {B : Nat} {Z : Nat → Prop} {w w1 : World} {b : Nat} {vw vp v1 : Value} {s : St}
theorem DcV.dc (h : DcV B Z w b vw vp s) : Dc B Z w b s := ⟨_, _, h⟩
theorem DcV.base (h : DcV B Z w b vw vp s) : B ≤ w.heap.size := by have := h.blk.lt; have := h.ge; omega
theorem DcV.c0 (h : DcV B Z w b vw vp s) : w.cell? ⟨b, 0, none⟩ = some vw := h.blk.cellV 0 rfl
theorem DcV.c1 (h : DcV B Z w b vw vp s) : w.cell? ⟨b, 1, none⟩ = some vp := h.blk.cellV 1 rfl
theorem DcV.c2 (h : DcV B Z w b vw vp s) : w.cell? ⟨b, 2, none⟩ = some (.bool s.ch) := h.blk.cellV 2 rfl
theorem DcV.c3 (h : DcV B Z w b vw vp s) : w.cell? ⟨b, 3, none⟩ = some (.bool s.ov) := h.blk.cellV 3 rfl
theorem DcV.fz (h : DcV B Z w b vw vp s) (i : Nat) : w.frozen? ⟨b, i, none⟩ = false := blk_frozen h.blk i
theorem DcV.kp0 (h : DcV B Z w b vw vp s) (hk : Kp0 w w1) : DcV B Z w1 b vw vp s :=
  ⟨h.blk.kp0 hk, h.ow.keep0 hk, h.op.keep0 hk, h.ge, h.nz, h.aw, h.ap, fun i hi => Nat.lt_of_lt_of_le (h.zs i hi) hk.size⟩
theorem DcV.drew (h : DcV B Z w b vw vp s) : DcV B Z w.drew b vw vp s := h.kp0 (Kp.refl _ _).drew
/-- Other blocks changed. -/
theorem DcV.keep (h : DcV B Z w b vw vp s) {S : Nat → Prop} (hk : Kp S w w1) (hb : ¬ S b) (hw : ∀ g, vw.ownBlock = some g → ¬ S g) (hp : ∀ g, vp.ownBlock = some g → ¬ S g) : DcV B Z w1 b vw vp s :=
  ⟨h.blk.keep hk hb, h.ow.keep hk (fun g hg _ _ => hw g hg), h.op.keep hk (fun g hg _ _ => hp g hg), h.ge, h.nz, h.aw, h.ap, fun i hi => Nat.lt_of_lt_of_le (h.zs i hi) hk.size⟩
theorem DcV.at (h : DcV B Z w b vw vp s) (i : Nat) (v : Value) : Kp (FB B Z) w1 (w1.setCell ⟨b, i, none⟩ v) := (Kp.refl _ w1).setCell (p := ⟨b, i, none⟩) (fun _ => ⟨h.ge, h.nz⟩) v
/-- What waits, stored anew. -/
theorem DcV.setW (h : DcV B Z w b vw vp s) (hk : Kp (fun g => vw.ownBlock = some g) w w1) {l : List UInt8} (ho : Ow B 5 w1 v1 (bys l)) (hb : ∀ g, v1.ownBlock = some g → vw.ownBlock = some g ∨ w.heap.size ≤ g) :
    DcV B Z (w1.setCell ⟨b, 0, none⟩ v1) b v1 vp { s with W := l } ∧ Kp (FB B Z) w (w1.setCell ⟨b, 0, none⟩ v1) := by
  have hlt := h.blk.lt
  have hB : Blk w1 b 26 [vw, vp, .bool s.ch, .bool s.ov] := h.blk.keep hk (fun e => (h.aw b e).1 rfl)
  have hs : Kp (fun g => g = b) w1 (w1.setCell ⟨b, 0, none⟩ v1) := (Kp.refl (fun g => g = b) w1).setCell (p := ⟨b, 0, none⟩) (fun _ => rfl) _
  have hne : ∀ g, v1.ownBlock = some g → g ≠ b ∧ ¬ Z g ∧ vp.ownBlock ≠ some g := fun g hg => by
    rcases hb g hg with h1 | h1
    · exact h.aw g h1
    · refine ⟨by omega, fun hz => by have := h.zs g hz; omega, fun hp => by have := (h.op.lt g hp).2; omega⟩
  have h1 := hB.set' 0 v1
  refine ⟨⟨h1, ho.keep hs (fun g hg _ _ => (hne g hg).1), (h.op.keep hk (fun g hg _ _ h2 => (h.aw g h2).2.2 hg)).keep hs (fun g hg _ _ => (h.ap g hg).1), h.ge, h.nz, hne, h.ap, fun i hi => Nat.lt_of_lt_of_le (h.zs i hi) (Nat.le_trans hk.size hs.size)⟩, ?_⟩
  exact (hk.mono (fun i _ hi => ⟨(h.ow.lt i hi).1, (h.aw i hi).2.1⟩)).trans hs (fun _ _ h => h) (fun i _ hi => by subst hi; exact ⟨h.ge, h.nz⟩)
theorem DcV.setM (h : DcV B Z w b vw vp s) (hk : Kp (fun g => vp.ownBlock = some g) w w1) {l : List UInt8} (ho : Ow B 5 w1 v1 (bys l)) (hb : ∀ g, v1.ownBlock = some g → vp.ownBlock = some g ∨ w.heap.size ≤ g) :
    DcV B Z (w1.setCell ⟨b, 1, none⟩ v1) b vw v1 { s with M := l } ∧ Kp (FB B Z) w (w1.setCell ⟨b, 1, none⟩ v1) := by
  have hlt := h.blk.lt
  have hB : Blk w1 b 26 [vw, vp, .bool s.ch, .bool s.ov] := h.blk.keep hk (fun e => (h.ap b e).1 rfl)
  have hs : Kp (fun g => g = b) w1 (w1.setCell ⟨b, 1, none⟩ v1) := (Kp.refl (fun g => g = b) w1).setCell (p := ⟨b, 1, none⟩) (fun _ => rfl) _
  have hne : ∀ g, v1.ownBlock = some g → g ≠ b ∧ ¬ Z g ∧ vw.ownBlock ≠ some g := fun g hg => by
    rcases hb g hg with h1 | h1
    · exact ⟨(h.ap g h1).1, (h.ap g h1).2, fun h2 => (h.aw g h2).2.2 h1⟩
    · refine ⟨by omega, fun hz => by have := h.zs g hz; omega, fun hp => by have := (h.ow.lt g hp).2; omega⟩
  have h1 := hB.set' 1 v1
  refine ⟨⟨h1, (h.ow.keep hk (fun g hg _ _ h2 => (h.aw g hg).2.2 h2)).keep hs (fun g hg _ _ => (h.aw g hg).1), ho.keep hs (fun g hg _ _ => (hne g hg).1), h.ge, h.nz, fun g hg => ⟨(h.aw g hg).1, (h.aw g hg).2.1, fun h2 => (hne g h2).2.2 hg⟩, fun g hg => ⟨(hne g hg).1, (hne g hg).2.1⟩, fun i hi => Nat.lt_of_lt_of_le (h.zs i hi) (Nat.le_trans hk.size hs.size)⟩, ?_⟩
  exact (hk.mono (fun i _ hi => ⟨(h.op.lt i hi).1, (h.ap i hi).2⟩)).trans hs (fun _ _ h => h) (fun i _ hi => by subst hi; exact ⟨h.ge, h.nz⟩)
theorem DcV.setC (h : DcV B Z w b vw vp s) (c : Bool) : DcV B Z (w.setCell ⟨b, 2, none⟩ (.bool c)) b vw vp { s with ch := c } ∧ Kp (FB B Z) w (w.setCell ⟨b, 2, none⟩ (.bool c)) := by
  have hs : Kp (fun g => g = b) w (w.setCell ⟨b, 2, none⟩ (.bool c)) := (Kp.refl (fun g => g = b) w).setCell (p := ⟨b, 2, none⟩) (fun _ => rfl) _
  refine ⟨⟨h.blk.set' 2 _, h.ow.keep hs (fun g hg _ _ => (h.aw g hg).1), h.op.keep hs (fun g hg _ _ => (h.ap g hg).1), h.ge, h.nz, h.aw, h.ap, fun i hi => Nat.lt_of_lt_of_le (h.zs i hi) hs.size⟩, h.at 2 _⟩
end
theorem infoB (_w : World) : (Tryd.prog.info? 5).map (fun i => (i.zero, i.size, i.bytes)) = some (some (.int .u8 0), 1, 1) := by kernel_rfl
/-- A decoder that is none. -/
theorem feed_nil (v : Value) (w : World) : Calls Tryd.prog 6 #[.pointer none, v] w fun e w' => e = .returned (.tuple #[]) ∧ w = w' := by
  go_enter Tryd.func6, Tryd.ntmps6
  go_wp2
  all_goals ((try simp only [Exit.inBlock, Exit.then]); refine bodyPost_ret (results_none rfl _ _ _) rfl ?_)
  all_goals exact ⟨rfl, rfl⟩
theorem switch_nil (w : World) : Calls Tryd.prog 5 #[.pointer none] w fun e w' => e = .returned (.tuple #[]) ∧ w = w' := by
  go_enter Tryd.func5, Tryd.ntmps5
  go_wp2
  all_goals go_end0
  all_goals exact ⟨rfl, rfl⟩
theorem next_nil (w : World) : Calls Tryd.prog 9 #[.pointer none] w fun e w' => e = .returned (.tuple #[.string .empty, .int .i64 1]) ∧ w = w' := by
  go_enter Tryd.func9, Tryd.ntmps9
  go_wp2
  all_goals go_ret2
  all_goals exact ⟨rfl, rfl⟩
theorem switch_any (B : Nat) (Z : Nat → Prop) (b : Nat) (s : St) (w : World) (h : Dc B Z w b s) : Calls Tryd.prog 5 #[.pointer (some ⟨b, 0, none⟩)] w fun e w' => e = .returned (.tuple #[]) ∧ Dc B Z w' b (switchS s) ∧ Kp (FB B Z) w w' := by
  obtain ⟨vw, vp, h⟩ := h
  have H := Lib.hid h
  have hf := h.fz 2
  have hc := h.c2
  clear h
  go_enter Tryd.func5, Tryd.ntmps5
  go_wp2
  go_end0
  exact ⟨rfl, (H.out.setC true).1.dc, (H.out.setC true).2⟩
set_option maxRecDepth 20000 in
theorem feed_any (B : Nat) (Z : Nat → Prop) (b : Nat) (s : St) (v : Value) (l : List UInt8) (w : World) (h : Dc B Z w b s) (hr : Rd w v (bys l)) (hl : s.W.length + l.length ≤ 140737488355328) :
    Calls Tryd.prog 6 #[.pointer (some ⟨b, 0, none⟩), v] w fun e w' => e = .returned (.tuple #[]) ∧ Dc B Z w' b (feedS s l) ∧ Kp (FB B Z) w w' := by
  obtain ⟨vw, vp, h⟩ := h
  have H := Lib.hid h
  have HR := Lib.hid hr
  have HL : Hid ((bys s.W).length + (bys l).length ≤ maxLen ∧ ((bys s.W).length + (bys l).length) * 1 ≤ 140737488355328) := Lib.hid (by rw [bys_len, bys_len, Nat.mul_one]; unfold maxLen; exact ⟨by omega, hl⟩)
  have hc := h.c3
  have hc0 := h.c0
  have hf := h.fz 0
  clear h hr hl
  obtain ⟨W, M, ch, ov⟩ := s
  cases ov with
  | true =>
    simp only [] at hc
    go_enter Tryd.func6, Tryd.ntmps6
    go_wp2
    ((try simp only [Exit.inBlock, Exit.then]); refine bodyPost_ret (results_none rfl _ _ _) rfl ?_)
    exact ⟨rfl, H.out.dc, Kp.refl _ _⟩
  | false =>
    simp only [] at hc
    go_enter Tryd.func6, Tryd.ntmps6
    go_wp2_with (refine wl_append_ow (o := ⟨some 18, _, _, _, _, _⟩) rfl _ _ 24 rfl Tryd.underlying24 (infoB w) rfl rfl rfl H.out.ow HR.out (bys_one _) HL.out.1 HL.out.2 H.out.base ?_)
    intro v1 w1 ho hk hb
    rw [← bys_app] at ho
    have HD := Lib.hid (H.out.setW hk ho hb)
    obtain ⟨a1, n1, k1, rfl⟩ := ho.sl
    have hf1 : w1.frozen? ⟨b, 0, none⟩ = false := hk.frozen' H.out.blk.lt hf (fun e => (H.out.aw b e).1 rfl)
    have hcx : w1.cell? ⟨b, 0, none⟩ = some vw := hk.cell hc0 (fun e => (H.out.aw b e).1 rfl)
    clear ho hk hb hf hc0 hc
    go_wp2
    go_end0
    exact ⟨rfl, HD.out.1.dc, HD.out.2⟩
end Go.Proofs.YtmmbhmfbhleglaaDoor
