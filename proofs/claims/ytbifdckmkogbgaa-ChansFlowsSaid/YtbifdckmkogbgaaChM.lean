/- One end of a channel in memory: what it reads as; what stays. -/
import Derived.Test.YtbifdckmkogbgaaChecked
import Derived.Test.YtbifdckmkogbgaaOw
import Derived.Test.YtbifdckmkogbgaaChS
import Derived.Test.YtbifdckmkogbgaaRw
import Derived.Test.YtbifdckmkogbgaaRegs
import Derived.Deep.DeepCutAuto
namespace Go.Proofs.Ytbifdckmkogbgaa
open Go Go.RowKit
/-- Rows of bytes: each value reads as its row. -/
def RowsR (w : World) (vs : List Value) (ls : List (List UInt8)) : Prop :=
  vs.length = ls.length ∧ ∀ (i : Nat) (v : Value), vs[i]? = some v → ∃ l, ls[i]? = some l ∧ Rd w v (bys l)
theorem RowsR.nil (w : World) : RowsR w [] [] := ⟨rfl, by simp⟩
theorem RowsR.keep {w w1 : World} {vs : List Value} {ls : List (List UInt8)} (h : RowsR w vs ls) {S : Nat → Prop} (hk : Kp S w w1) (hs : ∀ v, v ∈ vs → ∀ g, v.ownBlock = some g → ¬ S g) : RowsR w1 vs ls :=
  ⟨h.1, fun i v hv => by
    obtain ⟨l, h1, h2⟩ := h.2 i v hv
    exact ⟨l, h1, h2.keep hk (fun g hg _ => hs v (List.mem_of_getElem? hv) g hg)⟩⟩
theorem RowsR.snoc {w : World} {vs : List Value} {ls : List (List UInt8)} (h : RowsR w vs ls) {v : Value} {l : List UInt8} (hv : Rd w v (bys l)) : RowsR w (vs ++ [v]) (ls ++ [l]) := by
  refine ⟨by rw [List.length_append, List.length_append, h.1]; rfl, fun i x hx => ?_⟩
  by_cases hi : i < vs.length
  · rw [List.getElem?_append_left hi] at hx
    obtain ⟨y, h1, h2⟩ := h.2 i x hx
    exact ⟨y, by rw [List.getElem?_append_left (by have := h.1; omega)]; exact h1, h2⟩
  · rw [List.getElem?_append_right (by omega)] at hx
    have hi0 : i - vs.length = 0 := by
      have := (List.getElem?_eq_some_iff.1 hx).1
      simp at this
      omega
    rw [hi0] at hx
    simp at hx
    subst hx
    exact ⟨l, by rw [List.getElem?_append_right (by have := h.1; omega), ← h.1, hi0]; rfl, hv⟩
def cellsC (c : Ch) (vw vc vo : Value) : List Value := [.bool c.sv, .int .i64 c.st, .bool c.rd, .int .u32 c.nu, .int .i64 c.wi, .int .i64 c.mo, .int .i64 c.ro, vw, vc, vo, .bool c.en, .bool c.cl]
structure CmV (B : Nat) (w : World) (b : Nat) (F : Nat → Prop) (vw vc vo : Value) (rows : List Value) (c : Ch) : Prop where
  blk : Blk w b 54 (cellsC c vw vc vo)
  ow : Ow 0 5 w vw (bys c.wa)
  oc : Own 0 5 w vc (bys c.ca)
  oo : Ow 0 33 w vo rows
  rr : RowsR w rows c.out
  fb : F b
  aw : ∀ g, vw.ownBlock = some g → F g ∧ g ≠ b
  ac : ∀ g, vc.ownBlock = some g → F g ∧ g ≠ b ∧ vw.ownBlock ≠ some g
  ao : ∀ g, vo.ownBlock = some g → F g ∧ g ≠ b ∧ vw.ownBlock ≠ some g ∧ vc.ownBlock ≠ some g
  ar : ∀ r, r ∈ rows → ∀ g, r.ownBlock = some g → F g ∧ g ≠ b ∧ vw.ownBlock ≠ some g ∧ vc.ownBlock ≠ some g ∧ vo.ownBlock ≠ some g
  fB : ∀ i, F i → B ≤ i ∧ i < w.heap.size
def Cm (B : Nat) (w : World) (b : Nat) (F : Nat → Prop) (c : Ch) : Prop := ∃ vw vc vo rows, CmV B w b F vw vc vo rows c
/-- What a call leaves: the end as c', its blocks the old ones or new ones, no others changed. -/
def CmP (B b : Nat) (F : Nat → Prop) (w : World) (c' : Ch) (w' : World) : Prop := ∃ F', Cm B w' b F' c' ∧ (∀ i, F' i → F i ∨ w.heap.size ≤ i) ∧ Kp F w w'
section
variable {B : Nat} {w w1 : World} {b : Nat} {F : Nat → Prop} {vw vc vo v1 : Value} {rows : List Value} {c c' : Ch}
theorem CmV.cm (h : CmV B w b F vw vc vo rows c) : Cm B w b F c := ⟨_, _, _, _, h⟩
theorem CmV.ge (h : CmV B w b F vw vc vo rows c) : B ≤ b := (h.fB b h.fb).1
theorem CmV.base (h : CmV B w b F vw vc vo rows c) : B ≤ w.heap.size := by have := h.fB b h.fb; omega
theorem CmV.c0 (h : CmV B w b F vw vc vo rows c) : w.cell? ⟨b, 0, none⟩ = some (.bool c.sv) := h.blk.cellV 0 rfl
theorem CmV.c1 (h : CmV B w b F vw vc vo rows c) : w.cell? ⟨b, 1, none⟩ = some (.int .i64 c.st) := h.blk.cellV 1 rfl
theorem CmV.c2 (h : CmV B w b F vw vc vo rows c) : w.cell? ⟨b, 2, none⟩ = some (.bool c.rd) := h.blk.cellV 2 rfl
theorem CmV.c3 (h : CmV B w b F vw vc vo rows c) : w.cell? ⟨b, 3, none⟩ = some (.int .u32 c.nu) := h.blk.cellV 3 rfl
theorem CmV.c4 (h : CmV B w b F vw vc vo rows c) : w.cell? ⟨b, 4, none⟩ = some (.int .i64 c.wi) := h.blk.cellV 4 rfl
theorem CmV.c5 (h : CmV B w b F vw vc vo rows c) : w.cell? ⟨b, 5, none⟩ = some (.int .i64 c.mo) := h.blk.cellV 5 rfl
theorem CmV.c6 (h : CmV B w b F vw vc vo rows c) : w.cell? ⟨b, 6, none⟩ = some (.int .i64 c.ro) := h.blk.cellV 6 rfl
theorem CmV.c7 (h : CmV B w b F vw vc vo rows c) : w.cell? ⟨b, 7, none⟩ = some vw := h.blk.cellV 7 rfl
theorem CmV.c8 (h : CmV B w b F vw vc vo rows c) : w.cell? ⟨b, 8, none⟩ = some vc := h.blk.cellV 8 rfl
theorem CmV.c9 (h : CmV B w b F vw vc vo rows c) : w.cell? ⟨b, 9, none⟩ = some vo := h.blk.cellV 9 rfl
theorem CmV.c10 (h : CmV B w b F vw vc vo rows c) : w.cell? ⟨b, 10, none⟩ = some (.bool c.en) := h.blk.cellV 10 rfl
theorem CmV.c11 (h : CmV B w b F vw vc vo rows c) : w.cell? ⟨b, 11, none⟩ = some (.bool c.cl) := h.blk.cellV 11 rfl
theorem CmV.fz (h : CmV B w b F vw vc vo rows c) (i : Nat) : w.frozen? ⟨b, i, none⟩ = false := blk_frozen h.blk i
/-- Other blocks changed. -/
theorem CmV.keep (h : CmV B w b F vw vc vo rows c) {S : Nat → Prop} (hk : Kp S w w1) (hs : ∀ i, F i → ¬ S i) : CmV B w1 b F vw vc vo rows c :=
  ⟨h.blk.keep hk (hs b h.fb), h.ow.keep hk (fun g hg _ _ => hs g (h.aw g hg).1), h.oc.keep hk (fun g hg _ _ => hs g (h.ac g hg).1), h.oo.keep hk (fun g hg _ _ => hs g (h.ao g hg).1),
    h.rr.keep hk (fun v hv g hg => hs g (h.ar v hv g hg).1), h.fb, h.aw, h.ac, h.ao, h.ar, fun i hi => ⟨(h.fB i hi).1, Nat.lt_of_lt_of_le (h.fB i hi).2 hk.size⟩⟩
theorem CmV.kp0 (h : CmV B w b F vw vc vo rows c) (hk : Kp0 w w1) : CmV B w1 b F vw vc vo rows c := h.keep hk (fun _ _ h => h)
theorem Cm.keep (h : Cm B w b F c) {S : Nat → Prop} (hk : Kp S w w1) (hs : ∀ i, F i → ¬ S i) : Cm B w1 b F c := by
  obtain ⟨vw, vc, vo, rows, h⟩ := h
  exact ⟨vw, vc, vo, rows, h.keep hk hs⟩
theorem Cm.kp0 (h : Cm B w b F c) (hk : Kp0 w w1) : Cm B w1 b F c := h.keep hk (fun _ _ h => h)
theorem CmP.refl (h : Cm B w b F c) : CmP B b F w c w := ⟨F, h, fun _ h => .inl h, Kp.refl _ _⟩
/-- A cell of its own that holds no slice. -/
theorem CmV.set (h : CmV B w b F vw vc vo rows c) (i : Nat) (v : Value) (c' : Ch) (hl : (cellsC c vw vc vo).set i v = cellsC c' vw vc vo) (h1 : c'.wa = c.wa) (h2 : c'.ca = c.ca) (h3 : c'.out = c.out) :
    CmV B (w.setCell ⟨b, i, none⟩ v) b F vw vc vo rows c' ∧ Kp F w (w.setCell ⟨b, i, none⟩ v) := by
  have hs : Kp (fun g => g = b) w (w.setCell ⟨b, i, none⟩ v) := (Kp.refl (fun g => g = b) w).setCell (p := ⟨b, i, none⟩) (fun _ => rfl) _
  refine ⟨⟨by have := h.blk.set' i v; rw [hl] at this; exact this, by rw [h1]; exact h.ow.keep hs (fun g hg _ _ => (h.aw g hg).2), by rw [h2]; exact h.oc.keep hs (fun g hg _ _ => (h.ac g hg).2.1), h.oo.keep hs (fun g hg _ _ => (h.ao g hg).2.1),
    by rw [h3]; exact h.rr.keep hs (fun v hv g hg => (h.ar v hv g hg).2.1), h.fb, h.aw, h.ac, h.ao, h.ar, fun i hi => ⟨(h.fB i hi).1, Nat.lt_of_lt_of_le (h.fB i hi).2 hs.size⟩⟩, hs.mono (fun i _ hi => by subst hi; exact h.fb)⟩
/-- What waits, stored anew. -/
theorem CmV.setW (h : CmV B w b F vw vc vo rows c) (hk : Kp (fun g => vw.ownBlock = some g) w w1) {l : List UInt8} (ho : Ow 0 5 w1 v1 (bys l)) (hb : ∀ g, v1.ownBlock = some g → vw.ownBlock = some g ∨ w.heap.size ≤ g) :
    CmP B b F w { c with wa := l } (w1.setCell ⟨b, 7, none⟩ v1) := by
  have hB : Blk w1 b 54 (cellsC c vw vc vo) := h.blk.keep hk (fun e => (h.aw b e).2 rfl)
  have hs : Kp (fun g => g = b) w1 (w1.setCell ⟨b, 7, none⟩ v1) := (Kp.refl (fun g => g = b) w1).setCell (p := ⟨b, 7, none⟩) (fun _ => rfl) _
  have hlt := (h.fB b h.fb).2
  have hbs := h.base
  have hn : ∀ g, v1.ownBlock = some g → g ≠ b ∧ ∀ i, F i → vw.ownBlock ≠ some i → g ≠ i := fun g hg => by
    rcases hb g hg with h1 | h1
    · exact ⟨(h.aw g h1).2, fun i _ hi e => hi (e ▸ h1)⟩
    · exact ⟨by omega, fun i hi _ e => by have := (h.fB i hi).2; omega⟩
  refine ⟨fun i => F i ∨ v1.ownBlock = some i, ⟨v1, vc, vo, rows, hB.set' 7 v1, ho.keep hs (fun g hg _ _ => (hn g hg).1), ?_, ?_, ?_, .inl h.fb, fun g hg => ⟨.inr hg, (hn g hg).1⟩, fun g hg => ⟨.inl (h.ac g hg).1, (h.ac g hg).2.1, ?_⟩, fun g hg => ⟨.inl (h.ao g hg).1, (h.ao g hg).2.1, ?_, (h.ao g hg).2.2.2⟩,
    fun r hr g hg => ⟨.inl (h.ar r hr g hg).1, (h.ar r hr g hg).2.1, ?_, (h.ar r hr g hg).2.2.2⟩, ?_⟩, ?_, ?_⟩
  · exact (h.oc.keep hk (fun g hg _ _ => (h.ac g hg).2.2)).keep hs (fun g hg _ _ => (h.ac g hg).2.1)
  · exact (h.oo.keep hk (fun g hg _ _ => (h.ao g hg).2.2.1)).keep hs (fun g hg _ _ => (h.ao g hg).2.1)
  · exact (h.rr.keep hk (fun v hv g hg => (h.ar v hv g hg).2.2.1)).keep hs (fun v hv g hg => (h.ar v hv g hg).2.1)
  · exact fun e => (hn g e).2 g (h.ac g hg).1 (h.ac g hg).2.2 rfl
  · exact fun e => (hn g e).2 g (h.ao g hg).1 (h.ao g hg).2.2.1 rfl
  · exact fun e => (hn g e).2 g (h.ar r hr g hg).1 (h.ar r hr g hg).2.2.1 rfl
  · rintro i (hi | hi)
    · exact ⟨(h.fB i hi).1, Nat.lt_of_lt_of_le (h.fB i hi).2 (Nat.le_trans hk.size hs.size)⟩
    · refine ⟨?_, Nat.lt_of_lt_of_le (ho.lt i hi).2 hs.size⟩
      rcases hb i hi with h1 | h1
      · exact (h.fB i (h.aw i h1).1).1
      · omega
  · rintro i (hi | hi)
    · exact .inl hi
    · exact (hb i hi).elim (fun h1 => .inl (h.aw i h1).1) .inr
  · exact (hk.mono (fun i _ hi => (h.aw i hi).1)).trans hs (fun _ _ h => h) (fun i _ hi => by subst hi; exact h.fb)
/-- What came, stored anew. -/
theorem CmV.setC (h : CmV B w b F vw vc vo rows c) (hk : Kp (fun g => vc.ownBlock = some g) w w1) {l : List UInt8} (ho : Own 0 5 w1 v1 (bys l)) (hb : ∀ g, v1.ownBlock = some g → vc.ownBlock = some g ∨ w.heap.size ≤ g) :
    CmP B b F w { c with ca := l } (w1.setCell ⟨b, 8, none⟩ v1) := by
  have hB : Blk w1 b 54 (cellsC c vw vc vo) := h.blk.keep hk (fun e => (h.ac b e).2.1 rfl)
  have hs : Kp (fun g => g = b) w1 (w1.setCell ⟨b, 8, none⟩ v1) := (Kp.refl (fun g => g = b) w1).setCell (p := ⟨b, 8, none⟩) (fun _ => rfl) _
  have hlt := (h.fB b h.fb).2
  have hbs := h.base
  have hn : ∀ g, v1.ownBlock = some g → g ≠ b ∧ ∀ i, F i → vc.ownBlock ≠ some i → g ≠ i := fun g hg => by
    rcases hb g hg with h1 | h1
    · exact ⟨(h.ac g h1).2.1, fun i _ hi e => hi (e ▸ h1)⟩
    · exact ⟨by omega, fun i hi _ e => by have := (h.fB i hi).2; omega⟩
  have hwc : ∀ g, vw.ownBlock = some g → vc.ownBlock ≠ some g := fun g hg e => (h.ac g e).2.2 hg
  refine ⟨fun i => F i ∨ v1.ownBlock = some i, ⟨vw, v1, vo, rows, hB.set' 8 v1, ?_, ho.keep hs (fun g hg _ _ => (hn g hg).1), ?_, ?_, .inl h.fb, fun g hg => ⟨.inl (h.aw g hg).1, (h.aw g hg).2⟩, fun g hg => ⟨.inr hg, (hn g hg).1, ?_⟩, fun g hg => ⟨.inl (h.ao g hg).1, (h.ao g hg).2.1, (h.ao g hg).2.2.1, ?_⟩,
    fun r hr g hg => ⟨.inl (h.ar r hr g hg).1, (h.ar r hr g hg).2.1, (h.ar r hr g hg).2.2.1, ?_, (h.ar r hr g hg).2.2.2.2⟩, ?_⟩, ?_, ?_⟩
  · exact (h.ow.keep hk (fun g hg _ _ => hwc g hg)).keep hs (fun g hg _ _ => (h.aw g hg).2)
  · exact (h.oo.keep hk (fun g hg _ _ => (h.ao g hg).2.2.2)).keep hs (fun g hg _ _ => (h.ao g hg).2.1)
  · exact (h.rr.keep hk (fun v hv g hg => (h.ar v hv g hg).2.2.2.1)).keep hs (fun v hv g hg => (h.ar v hv g hg).2.1)
  · exact fun e => (hn g hg).2 g (h.aw g e).1 (hwc g e) rfl
  · exact fun e => (hn g e).2 g (h.ao g hg).1 (h.ao g hg).2.2.2 rfl
  · exact fun e => (hn g e).2 g (h.ar r hr g hg).1 (h.ar r hr g hg).2.2.2.1 rfl
  · rintro i (hi | hi)
    · exact ⟨(h.fB i hi).1, Nat.lt_of_lt_of_le (h.fB i hi).2 (Nat.le_trans hk.size hs.size)⟩
    · refine ⟨?_, Nat.lt_of_lt_of_le (ho.lt i hi).2 hs.size⟩
      rcases hb i hi with h1 | h1
      · exact (h.fB i (h.ac i h1).1).1
      · omega
  · rintro i (hi | hi)
    · exact .inl hi
    · exact (hb i hi).elim (fun h1 => .inl (h.ac i h1).1) .inr
  · exact (hk.mono (fun i _ hi => (h.ac i hi).1)).trans hs (fun _ _ h => h) (fun i _ hi => by subst hi; exact h.fb)
/-- What goes out, stored anew: a row more. -/
theorem CmV.setO (h : CmV B w b F vw vc vo rows c) (hk : Kp (fun g => vo.ownBlock = some g) w w1) {v : Value} {l : List UInt8} (ho : Ow 0 33 w1 v1 (rows ++ [v])) (hb : ∀ g, v1.ownBlock = some g → vo.ownBlock = some g ∨ w.heap.size ≤ g)
    (hv : Rd w v (bys l)) (hvb : ∀ g, v.ownBlock = some g → B ≤ g ∧ g < w.heap.size ∧ ¬ F g) :
    ∃ F', Cm B (w1.setCell ⟨b, 9, none⟩ v1) b F' (sayS c l) ∧ (∀ i, F' i → F i ∨ v.ownBlock = some i ∨ w.heap.size ≤ i) ∧ Kp F w (w1.setCell ⟨b, 9, none⟩ v1) := by
  have hB : Blk w1 b 54 (cellsC c vw vc vo) := h.blk.keep hk (fun e => (h.ao b e).2.1 rfl)
  have hs : Kp (fun g => g = b) w1 (w1.setCell ⟨b, 9, none⟩ v1) := (Kp.refl (fun g => g = b) w1).setCell (p := ⟨b, 9, none⟩) (fun _ => rfl) _
  have hlt := (h.fB b h.fb).2
  have hbs := h.base
  have hn : ∀ g, v1.ownBlock = some g → g ≠ b ∧ (∀ i, F i → vo.ownBlock ≠ some i → g ≠ i) ∧ v.ownBlock ≠ some g := fun g hg => by
    rcases hb g hg with h1 | h1
    · exact ⟨(h.ao g h1).2.1, fun i _ hi e => hi (e ▸ h1), fun e => (hvb g e).2.2 (h.ao g h1).1⟩
    · exact ⟨by omega, fun i hi _ e => by have := (h.fB i hi).2; omega, fun e => by have := (hvb g e).2.1; omega⟩
  have hwo : ∀ g, vw.ownBlock = some g → vo.ownBlock ≠ some g := fun g hg e => (h.ao g e).2.2.1 hg
  have hco : ∀ g, vc.ownBlock = some g → vo.ownBlock ≠ some g := fun g hg e => (h.ao g e).2.2.2 hg
  have hrk : RowsR (w1.setCell ⟨b, 9, none⟩ v1) (rows ++ [v]) (c.out ++ [l]) := by
    refine RowsR.snoc ((h.rr.keep hk (fun v hv g hg => (h.ar v hv g hg).2.2.2.2)).keep hs (fun v hv g hg => (h.ar v hv g hg).2.1)) ?_
    exact (hv.keep hk (fun g hg _ e => (hvb g hg).2.2 (h.ao g e).1)).keep hs (fun g hg _ e => (hvb g hg).2.2 (by have e2 : g = b := e; rw [e2]; exact h.fb))
  refine ⟨fun i => F i ∨ v.ownBlock = some i ∨ v1.ownBlock = some i, ⟨vw, vc, v1, rows ++ [v], hB.set' 9 v1, ?_, ?_, ho.keep hs (fun g hg _ _ => (hn g hg).1), hrk, .inl h.fb, fun g hg => ⟨.inl (h.aw g hg).1, (h.aw g hg).2⟩, fun g hg => ⟨.inl (h.ac g hg).1, (h.ac g hg).2⟩, fun g hg => ⟨.inr (.inr hg), (hn g hg).1, ?_, ?_⟩, ?_, ?_⟩, ?_, ?_⟩
  · exact (h.ow.keep hk (fun g hg _ _ => hwo g hg)).keep hs (fun g hg _ _ => (h.aw g hg).2)
  · exact (h.oc.keep hk (fun g hg _ _ => hco g hg)).keep hs (fun g hg _ _ => (h.ac g hg).2.1)
  · exact fun e => (hn g hg).2.1 g (h.aw g e).1 (hwo g e) rfl
  · exact fun e => (hn g hg).2.1 g (h.ac g e).1 (hco g e) rfl
  · intro r hr g hg
    rcases List.mem_append.1 hr with hr | hr
    · exact ⟨.inl (h.ar r hr g hg).1, (h.ar r hr g hg).2.1, (h.ar r hr g hg).2.2.1, (h.ar r hr g hg).2.2.2.1, fun e => (hn g e).2.1 g (h.ar r hr g hg).1 (h.ar r hr g hg).2.2.2.2 rfl⟩
    · obtain rfl : r = v := by simpa using hr
      have h3 := (hvb g hg).2.2
      exact ⟨.inr (.inl hg), fun e => h3 (e ▸ h.fb), fun e => h3 (h.aw g e).1, fun e => h3 (h.ac g e).1, fun e => (hn g e).2.2 hg⟩
  · rintro i (hi | hi | hi)
    · exact ⟨(h.fB i hi).1, Nat.lt_of_lt_of_le (h.fB i hi).2 (Nat.le_trans hk.size hs.size)⟩
    · exact ⟨(hvb i hi).1, Nat.lt_of_lt_of_le (hvb i hi).2.1 (Nat.le_trans hk.size hs.size)⟩
    · refine ⟨?_, Nat.lt_of_lt_of_le (ho.lt i hi).2 hs.size⟩
      rcases hb i hi with h1 | h1
      · exact (h.fB i (h.ao i h1).1).1
      · omega
  · rintro i (hi | hi | hi)
    · exact .inl hi
    · exact .inr (.inl hi)
    · exact (hb i hi).elim (fun h1 => .inl (h.ao i h1).1) (fun h1 => .inr (.inr h1))
  · exact (hk.mono (fun i _ hi => (h.ao i hi).1)).trans hs (fun _ _ h => h) (fun i _ hi => by subst hi; exact h.fb)
theorem CmP.trans {c'' : Ch} {w2 : World} {F' : Nat → Prop} (hF : ∀ i, F' i → F i ∨ w.heap.size ≤ i) (hk : Kp F w w1) (h : CmP B b F' w1 c'' w2) : CmP B b F w c'' w2 := by
  obtain ⟨F2, h1, h2, h3⟩ := h
  have hsz := hk.size
  refine ⟨F2, h1, fun i hi => ?_, hk.trans h3 (fun _ _ h => h) (fun i hi h => (hF i h).elim id (fun h => by omega))⟩
  rcases h2 i hi with h4 | h4
  · exact hF i h4
  · exact .inr (by omega)
end
theorem infoB1 (_w : World) : (Try.prog.info? 5).map (fun i => (i.zero, i.size, i.bytes)) = some (some (.int .u8 0), 1, 1) := by kernel_rfl
theorem infoR1 (_w : World) : (Try.prog.info? 33).map (fun i => (i.zero, i.size, i.bytes)) = some (some (.slice none 0 0), 1, 24) := by kernel_rfl
end Go.Proofs.Ytbifdckmkogbgaa
