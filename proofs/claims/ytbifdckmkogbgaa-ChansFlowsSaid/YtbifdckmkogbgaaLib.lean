/- General words for walks over slices of one-cell elements and over strings: frames, readings, owned rows, and laws on single operations. Nothing of the program stands here. -/
import Derived.WalkKit
import Derived.WalkSpells
import Derived.WalkLawsBesides
import Derived.Lib.Hide
import Derived.Lib.AppendStr
import Derived.Laws.AppendOwnNone
import Derived.Deep.RegionLaw
namespace Go.Proofs.Ytbifdckmkogbgaa
open Go Go.RowKit

/-- Bytes as cells. -/
def bys (l : List UInt8) : List Value := l.map fun c => .int .u8 (c.toNat : Int)
theorem bys_nil : bys [] = [] := rfl
theorem bys_len (l : List UInt8) : (bys l).length = l.length := by simp [bys]
theorem bys_app (a b : List UInt8) : bys (a ++ b) = bys a ++ bys b := by simp [bys]
theorem bys_get (l : List UInt8) (i : Nat) (h : i < l.length) : (bys l)[i]? = some (.int .u8 ((l[i]).toNat : Int)) := by simp [bys, h]
theorem bys_str (s : ByteArray) : Lib.strCells s = bys s.toList := by rw [ByteArray.toList_eq]; rfl
theorem bys_one (l : List UInt8) : ∀ u ∈ bys l, u.oneCell' = true := by
  intro u hu; obtain ⟨c, _, rfl⟩ := List.mem_map.1 hu; rfl
theorem size_toList (s : ByteArray) : s.toList.length = s.size := by rw [ByteArray.toList_eq, Array.length_toList]; rfl
theorem str_ext {s t : ByteArray} (h : s.toList = t.toList) : s = t := by
  rw [ByteArray.toList_eq, ByteArray.toList_eq] at h
  have : s.data = t.data := Array.ext' h
  cases s; cases t; simp at this; rw [this]
theorem str_mk (s : ByteArray) : s = ⟨s.toList.toArray⟩ := str_ext (ByteArray.toList_mk s.toList).symm

theorem nil_toList : ({ data := #[] } : ByteArray).toList = [] := by rw [ByteArray.toList_eq]
theorem extract_toList (s : ByteArray) (a b : Nat) : (s.extract a b).toList = (s.toList.drop a).take (b - a) := by
  obtain ⟨l, rfl⟩ : ∃ l : List UInt8, s = ⟨l.toArray⟩ := ⟨s.toList, str_mk s⟩
  rw [ByteArray.extract_mk, ByteArray.toList_mk, ByteArray.toList_mk]
/-- What was there stays, but for the blocks of S. -/
structure Kp (S : Nat → Prop) (w w' : World) : Prop where
  os : w'.os = w.os
  tape : w'.tape = w.tape
  output : w'.output = w.output
  size : w.heap.size ≤ w'.heap.size
  block : ∀ k, k < w.heap.size → ¬ S k → w'.heap[k]? = w.heap[k]?

abbrev Kp0 : World → World → Prop := Kp (fun _ => False)

section
variable {S T U : Nat → Prop} {a b c w w' : World}
theorem Kp.refl (S : Nat → Prop) (w : World) : Kp S w w := ⟨rfl, rfl, rfl, Nat.le_refl _, fun _ _ _ => rfl⟩
theorem Kp.trans (h : Kp S a b) (k : Kp T b c) (hu1 : ∀ i, i < a.heap.size → S i → U i) (hu2 : ∀ i, i < a.heap.size → T i → U i) : Kp U a c :=
  ⟨k.os.trans h.os, k.tape.trans h.tape, k.output.trans h.output, Nat.le_trans h.size k.size, fun i hi hn =>
    (k.block i (Nat.lt_of_lt_of_le hi h.size) (fun t => hn (hu2 i hi t))).trans (h.block i hi (fun t => hn (hu1 i hi t)))⟩
theorem Kp.tr (h : Kp S a b) (k : Kp S b c) : Kp S a c := h.trans k (fun _ _ h => h) (fun _ _ h => h)
theorem Kp.mono (h : Kp S a b) (hu : ∀ i, i < a.heap.size → S i → U i) : Kp U a b := ⟨h.os, h.tape, h.output, h.size, fun i hi hn => h.block i hi (fun t => hn (hu i hi t))⟩
theorem Kp.alloc (h : Kp S a b) (o : Obj) : Kp S a (b.alloc o) :=
  h.tr ⟨rfl, rfl, rfl, by simp, fun k hk _ => Below.heap_alloc _ _ _ (by omega)⟩
theorem Kp.drew (h : Kp S a b) : Kp S a b.drew := ⟨h.os, h.tape, h.output, h.size, h.block⟩
theorem Kp.drewN (h : Kp S a b) (n : Nat) : Kp S a (b.drewN n) := ⟨h.os, h.tape, h.output, h.size, h.block⟩
theorem Kp.setCell (h : Kp S a b) {p : Addr} (hp : p.block < a.heap.size → S p.block) (u : Value) : Kp S a (b.setCell p u) :=
  ⟨h.os, h.tape, h.output, by simpa [World.setCell] using h.size, fun k hk hn => by
    rw [Below.heap_setCell _ _ _ _ (fun e => hn (by subst e; exact hp hk))]; exact h.block k hk hn⟩
theorem Kp.grown (h : Kp S a b) {row : Option Nat} (hg : b.grownBy c row) (hr : ∀ k, row = some k → k < a.heap.size → S k) : Kp S a c :=
  ⟨hg.os.trans h.os, hg.tape.trans h.tape, hg.output.trans h.output, Nat.le_trans h.size hg.size, fun k hk hn =>
    (hg.block k (Nat.lt_of_lt_of_le hk h.size) (fun e => hn (hr k e.symm hk))).trans (h.block k hk hn)⟩
theorem Kp.of_below {B : Nat} (h : Below B w w') : Kp (fun k => B ≤ k) w w' := ⟨h.os, h.tape, h.output, h.size, fun k _ hn => h.block k (by omega)⟩
theorem Kp.below (h : Kp S w w') {B : Nat} (hB : B ≤ w.heap.size) (hS : ∀ k, k < B → ¬ S k) : Below B w w' := ⟨h.os, h.tape, h.output, h.size, fun k hk => h.block k (by omega) (hS k hk)⟩
theorem Kp.cell (h : Kp S w w') {p : Addr} {v : Value} (hc : w.cell? p = some v) (hp : ¬ S p.block) : w'.cell? p = some v :=
  (World.cell?_of_block (h.block p.block (World.block_lt_of_cell? w p hc) hp)).trans hc
theorem Kp.frozen (h : Kp S w w') {p : Addr} {v : Value} (hc : w.cell? p = some v) (hf : w.frozen? p = false) (hp : ¬ S p.block) : w'.frozen? p = false :=
  (World.frozen?_of_block (h.block p.block (World.block_lt_of_cell? w p hc) hp)).trans hf
theorem Kp.frozen' (h : Kp S w w') {p : Addr} (hl : p.block < w.heap.size) (hf : w.frozen? p = false) (hp : ¬ S p.block) : w'.frozen? p = false :=
  (World.frozen?_of_block (h.block p.block hl hp)).trans hf
theorem Kp.nil (S : Nat → Prop) (h : Kp0 w w') : Kp S w w' := h.mono (fun _ _ h => h.elim)
end

/-- v is a slice that reads as the cells xs. -/
def Rd (w : World) (v : Value) (xs : List Value) : Prop :=
  ∃ ao cap, v = .slice ao xs.length cap ∧ xs.length ≤ cap ∧ cap ≤ maxLen ∧ (ao = none → cap = 0) ∧
    ∀ ad, ao = some ad → ∀ i u, xs[i]? = some u → w.cell? (ad.add i) = some u

theorem Rd.nil (w : World) : Rd w (.slice none 0 0) [] := ⟨none, 0, rfl, Nat.le_refl _, Nat.zero_le _, fun _ => rfl, by simp⟩
theorem Rd.empty (w : World) (ao : Option Addr) (cap : Nat) (h : cap ≤ maxLen) (hn : ao = none → cap = 0) : Rd w (.slice ao 0 cap) [] := ⟨ao, cap, rfl, Nat.zero_le _, h, hn, by simp⟩
theorem add_block (ad : Addr) (i : Nat) : (ad.add i).block = ad.block := by unfold Addr.add; split <;> rfl
theorem Rd.keep {w w' : World} {v : Value} {xs : List Value} (h : Rd w v xs) {S : Nat → Prop} (hk : Kp S w w') (hs : ∀ b, v.ownBlock = some b → b < w.heap.size → ¬ S b) : Rd w' v xs := by
  obtain ⟨ao, cap, rfl, h1, h2, h3, h4⟩ := h
  refine ⟨ao, cap, rfl, h1, h2, h3, fun ad e i u hu => ?_⟩
  have hc := h4 ad e i u hu
  have hl := World.block_lt_of_cell? w _ hc
  rw [add_block] at hl
  exact hk.cell hc (by rw [add_block]; exact hs _ (by subst e; rfl) hl)
theorem Rd.keep0 {w w' : World} {v : Value} {xs : List Value} (h : Rd w v xs) (hk : Kp0 w w') : Rd w' v xs := h.keep hk (fun _ _ _ h => h)
theorem Rd.alloc {w : World} {v : Value} {xs : List Value} (h : Rd w v xs) (o : Obj) : Rd (w.alloc o) v xs := h.keep0 ((Kp.refl _ w).alloc o)
/-- The same cells under a smaller capacity. -/
theorem Rd.clip {w : World} {ao : Option Addr} {n cap : Nat} {xs : List Value} (h : Rd w (.slice ao n cap) xs) : Rd w (.slice ao n n) xs := by
  obtain ⟨ao', cap', e, g1, g2, g3, g4⟩ := h
  simp only [Value.slice.injEq] at e
  obtain ⟨rfl, rfl, rfl⟩ := e
  exact ⟨_, _, rfl, Nat.le_refl _, Nat.le_trans g1 g2, fun hn => by have := g3 hn; omega, g4⟩
theorem Rd.drew {w : World} {v : Value} {xs : List Value} (h : Rd w v xs) : Rd w.drew v xs := h
theorem addr_eta {w : World} {ad : Addr} {u : Value} (h : w.cell? (ad.add 0) = some u) : ad = ⟨ad.block, ad.off, none⟩ := by
  rw [Addr.add_zero'] at h
  unfold World.cell? at h
  split at h
  · split at h
    · cases h
    · cases ad; rename_i hs; simp at hs; subst hs; rfl
  · cases h
/-- A slice that is not empty: its address written out. -/
theorem Rd.pos {w : World} {v : Value} {xs : List Value} (h : Rd w v xs) (hx : 0 < xs.length) :
    ∃ b o cap, v = .slice (some ⟨b, o, none⟩) xs.length cap ∧ xs.length ≤ cap ∧ cap ≤ maxLen ∧ ∀ i (hi : i < xs.length), w.cell? ⟨b, o + i, none⟩ = some (xs[i]'hi) := by
  obtain ⟨ao, cap, rfl, h1, h2, h3, h4⟩ := h
  cases ao with
  | none => have := h3 rfl; omega
  | some ad =>
    have e := addr_eta (h4 ad rfl 0 _ (List.getElem?_eq_getElem hx))
    refine ⟨ad.block, ad.off, cap, by rw [← e], h1, h2, fun i hi => ?_⟩
    have hc := h4 ad rfl i _ (List.getElem?_eq_getElem hi)
    rw [e, Addr.add_lit] at hc
    exact hc
/-- A slice whose shape is written out. -/
theorem Rd.shape {w : World} {v : Value} {xs : List Value} (h : Rd w v xs) : ∃ ao cap, v = .slice ao xs.length cap ∧ xs.length ≤ cap ∧ cap ≤ maxLen ∧ (ao = none → cap = 0) := by
  obtain ⟨ao, cap, h0, h1, h2, h3, _⟩ := h; exact ⟨ao, cap, h0, h1, h2, h3⟩
theorem Rd.shapeB {w : World} {v : Value} {l : List UInt8} (h : Rd w v (bys l)) : ∃ ao cap, v = .slice ao l.length cap ∧ l.length ≤ cap ∧ cap ≤ 9223372036854775807 ∧ (ao = none → cap = 0) := by
  obtain ⟨ao, cap, h0, h1, h2, h3⟩ := h.shape
  rw [bys_len] at h0 h1
  exact ⟨ao, cap, h0, h1, h2, h3⟩
theorem Rd.posB {w : World} {v : Value} {l : List UInt8} (h : Rd w v (bys l)) (hx : 0 < l.length) :
    ∃ b o cap, v = .slice (some ⟨b, o, none⟩) l.length cap ∧ l.length ≤ cap ∧ cap ≤ 9223372036854775807 ∧ ∀ i (hi : i < l.length), w.cell? ⟨b, o + i, none⟩ = some (.int .u8 ((l[i]'hi).toNat : Int)) := by
  obtain ⟨b, o, cap, h0, h1, h2, h3⟩ := h.pos (by rw [bys_len]; exact hx)
  rw [bys_len] at h0 h1
  refine ⟨b, o, cap, h0, h1, h2, fun i hi => ?_⟩
  rw [h3 i (by rw [bys_len]; exact hi)]
  simp [bys]
/-- Cut: 'v[lo:hi:mx]' as the model writes it. -/
theorem Rd.cut {w : World} {ao : Option Addr} {n cap : Nat} {xs : List Value} (h : Rd w (.slice ao n cap) xs) (lo hi mx : Nat) (h1 : lo ≤ hi) (h2 : hi ≤ n) (h3 : hi ≤ mx) (h4 : mx ≤ cap) :
    Rd w (sliced ao lo hi mx 1) ((xs.drop lo).take (hi - lo)) := by
  obtain ⟨ao', cap', e, g1, g2, g3, g4⟩ := h
  simp only [Value.slice.injEq] at e
  obtain ⟨rfl, rfl, rfl⟩ := e
  have hlen : ((xs.drop lo).take (hi - lo)).length = hi - lo := by simp; omega
  refine ⟨if mx = lo then ao else ao.map (·.add (lo * 1)), mx - lo, by simp only [sliced, hlen], by omega, by omega, ?_, ?_⟩
  · intro hn
    split at hn
    · omega
    · cases ao with
      | none => have := g3 rfl; omega
      | some ad => simp at hn
  · intro ad had i u hu
    have hi2 : i < hi - lo := by have := (List.getElem?_eq_some_iff.1 hu).1; rw [hlen] at this; exact this
    rw [if_neg (by omega)] at had
    cases ao with
    | none => simp at had
    | some ad0 =>
      simp at had
      subst had
      rw [Addr.add_add]
      refine g4 ad0 rfl (lo + i) u ?_
      rw [List.getElem?_take, if_pos hi2, List.getElem?_drop] at hu
      exact hu

/-- 'v[k:]' where something is left. -/
theorem Rd.after {w : World} {b o n cap : Nat} {xs : List Value} (h : Rd w (.slice (some ⟨b, o, none⟩) n cap) xs) (k : Nat) (hk : k < n) : Rd w (.slice (some ⟨b, o + k, none⟩) (n - k) (cap - k)) (xs.drop k) := by
  obtain ⟨ao', cap', e, g1, _⟩ := id h
  simp only [Value.slice.injEq] at e
  have hn : n = xs.length := e.2.1
  have hc : xs.length ≤ cap := by rw [e.2.2]; exact g1
  have := h.cut k n cap (by omega) (Nat.le_refl _) (by omega) (Nat.le_refl _)
  unfold sliced at this
  rw [if_neg (by omega), List.take_of_length_le (by rw [List.length_drop]; omega)] at this
  simpa [Addr.add_lit] using this
theorem Rd.afterB {w : World} {b o n cap : Nat} {l : List UInt8} (h : Rd w (.slice (some ⟨b, o, none⟩) n cap) (bys l)) (k : Nat) (hk : k < n) : Rd w (.slice (some ⟨b, o + k, none⟩) (n - k) (cap - k)) (bys (l.drop k)) := by
  have := h.after k hk
  have e : (bys l).drop k = bys (l.drop k) := by simp [bys]
  rwa [e] at this
/-- 'v[n:]': nothing is left. -/
theorem Rd.endB {w : World} {ao : Option Addr} {n cap : Nat} {xs : List Value} (h : Rd w (.slice ao n cap) xs) : Rd w (sliced ao n n cap 1) (bys []) := by
  obtain ⟨ao', cap', e, g1, g2, g3, _⟩ := h
  simp only [Value.slice.injEq] at e
  obtain ⟨rfl, rfl, rfl⟩ := e
  have := Rd.empty w (if cap = xs.length then ao else ao.map (·.add (xs.length * 1))) (cap - xs.length) (by omega) (by
    intro hn
    split at hn
    · omega
    · cases ao with
      | none => have := g3 rfl; omega
      | some x => simp at hn)
  unfold sliced
  rw [Nat.sub_self]
  exact this
/-- The row of a value that the call itself made, from block B on. -/
abbrev Own (B : Nat) (e : TypeId) (w : World) (v : Value) (xs : List Value) : Prop := w.ownsRow B e 1 v xs.length xs

theorem Own.nil (B : Nat) (e : TypeId) (w : World) : Own B e w (.slice none 0 0) [] := World.ownsRow_nil w B e 1
theorem Own.rd {B : Nat} {e : TypeId} {w : World} {v : Value} {xs : List Value} (h : Own B e w v xs) : Rd w v xs := by
  rcases h.2 with ⟨rfl, h0⟩ | ⟨g, cap, cur, rfl, hb, hh, hn, hc, hs, ht⟩
  · obtain rfl := List.eq_nil_of_length_eq_zero h0; exact Rd.nil w
  · refine ⟨some ⟨g, 0, none⟩, cap, rfl, hn, hc, by simp, fun ad e' i u hu => ?_⟩
    cases e'
    exact h.cells (g := g) rfl i u hu
theorem Own.keep {B : Nat} {e : TypeId} {w w' : World} {v : Value} {xs : List Value} (h : Own B e w v xs) {S : Nat → Prop} (hk : Kp S w w') (hs : ∀ b, v.ownBlock = some b → B ≤ b → b < w.heap.size → ¬ S b) : Own B e w' v xs := by
  refine ⟨h.1, ?_⟩
  rcases h.2 with h0 | ⟨g, cap, cur, rfl, hb, hh, r⟩
  · exact .inl h0
  · have hl := (Array.getElem?_eq_some_iff.1 hh).1
    exact .inr ⟨g, cap, cur, rfl, hb, by rw [hk.block g hl (hs g rfl hb hl)]; exact hh, r⟩
theorem Own.keep0 {B : Nat} {e : TypeId} {w w' : World} {v : Value} {xs : List Value} (h : Own B e w v xs) (hk : Kp0 w w') : Own B e w' v xs := h.keep hk (fun _ _ _ _ h => h)
theorem Own.lt {B : Nat} {e : TypeId} {w : World} {v : Value} {xs : List Value} (h : Own B e w v xs) : ∀ b, v.ownBlock = some b → B ≤ b ∧ b < w.heap.size := World.ownsRow.lt h
theorem Own.base {B B' : Nat} {e : TypeId} {w : World} {v : Value} {xs : List Value} (h : Own B e w v xs) (hb : B' ≤ B) : Own B' e w v xs :=
  ⟨h.1, h.2.imp id fun ⟨g, cap, cur, h1, h2, h3⟩ => ⟨g, cap, cur, h1, Nat.le_trans hb h2, h3⟩⟩

/-- A slice's literal: a new block, written out. -/
theorem Rd.lit (w : World) (cs : Array Value) (e : TypeId) (fz : Nat × Nat) (n : Nat) (hn : cs.size = n) (hm : n ≤ 9223372036854775807) : Rd (w.alloc (.cells cs e fz)) (.slice (some ⟨w.heap.size, 0, none⟩) n n) cs.toList := by
  subst hn
  refine ⟨some ⟨w.heap.size, 0, none⟩, cs.size, by rw [Array.length_toList], by rw [Array.length_toList]; exact Nat.le_refl _, by unfold maxLen; omega, by simp, fun ad e' i u hu => ?_⟩
  cases e'
  rw [Addr.add_lit, Nat.zero_add]
  rw [cell_of_row _ w.heap.size i cs e fz (heap_alloc_new w _)]
  simpa using hu

/-- What 'make([]T, n)' lays is owned. -/
theorem Own.made (w : World) (z : Value) (n : Nat) (e : TypeId) (hn : n ≤ 9223372036854775807) : Own w.heap.size e (w.alloc (.cells (madeCells #[z] n) e)) (.slice (some ⟨w.heap.size, 0, none⟩) n n) (List.replicate n z) := by
  have hs : (madeCells #[z] n).size = n := by rw [← Array.length_toList, toList_madeCells_one, List.length_replicate]
  have h := World.ownsRow_lit (base := w.heap.size) (e := e) (size := 1) w (madeCells #[z] n) n (Nat.le_refl _) (by unfold maxLen; omega) (by rw [hs]; omega)
  rw [toList_madeCells_one] at h
  unfold Own
  rw [List.length_replicate]
  exact h

/-- A slice's literal is owned. -/
theorem Own.lit (w : World) (cs : Array Value) (e : TypeId) (n : Nat) (hn : cs.size = n) (hm : n ≤ 9223372036854775807) : Own w.heap.size e (w.alloc (.cells cs e)) (.slice (some ⟨w.heap.size, 0, none⟩) n n) cs.toList := by
  have h := World.ownsRow_lit (base := w.heap.size) (e := e) (size := 1) w cs n (Nat.le_refl _) (by unfold maxLen; omega) (by omega)
  unfold Own
  rw [Array.length_toList, hn]
  exact h
/-- Texts as cells. -/
def strs (l : List ByteArray) : List Value := l.map Value.string
theorem strs_len (l : List ByteArray) : (strs l).length = l.length := by simp [strs]
theorem Rd.shapeS {w : World} {v : Value} {l : List ByteArray} (h : Rd w v (strs l)) : ∃ ao cap, v = .slice ao l.length cap ∧ l.length ≤ cap ∧ cap ≤ 9223372036854775807 ∧ (ao = none → cap = 0) := by
  obtain ⟨ao, cap, h0, h1, h2, h3⟩ := h.shape
  rw [strs_len] at h0 h1
  exact ⟨ao, cap, h0, h1, h2, h3⟩
theorem Rd.posS {w : World} {v : Value} {l : List ByteArray} (h : Rd w v (strs l)) (hx : 0 < l.length) :
    ∃ b o cap, v = .slice (some ⟨b, o, none⟩) l.length cap ∧ l.length ≤ cap ∧ cap ≤ 9223372036854775807 ∧ ∀ i (hi : i < l.length), w.cell? ⟨b, o + i, none⟩ = some (.string (l[i]'hi)) := by
  obtain ⟨b, o, cap, h0, h1, h2, h3⟩ := h.pos (by rw [strs_len]; exact hx)
  rw [strs_len] at h0 h1
  refine ⟨b, o, cap, h0, h1, h2, fun i hi => ?_⟩
  rw [h3 i (by rw [strs_len]; exact hi)]
  simp [strs]

section laws
variable {P : Program} {w : World} {ops : Array Oper} {rest : List Oper} {o : Oper} {a : Act} {Q : Exit → Act → World → Prop}
/-- APPEND of what reads as ys to what the call owns. -/
theorem wl_append_own (hgd : o.guard = none) (s x : Operand) (t : TypeId)
    (ho : o.op = .call { callee := .builtin .append, args := #[s, x], argTypes := #[t, t] })
    {B e bytes : Nat} {z : Value} (ht : P.underlying t = some (.slice e)) (hi : (P.info? e).map (fun i => (i.zero, i.size, i.bytes)) = some (some z, 1, bytes)) (hz : z.cells.size = 1)
    {v y : Value} {xs ys : List Value} (hs : a.eval s = v) (hx : a.eval x = y) (hown : Own B e w v xs) (hrd : Rd w y ys) (h1 : ∀ u ∈ ys, u.oneCell' = true)
    (h63 : xs.length + ys.length ≤ maxLen) (hbytes : (xs.length + ys.length) * bytes ≤ 140737488355328) (hbase : B ≤ w.heap.size)
    (h : ∀ v' w', Own B e w' v' (xs ++ ys) → w.grownBy w' v.ownBlock → wpList P ops Q rest (a.put o.dst v') w') : wpList P ops Q (o :: rest) a w := by
  obtain ⟨i, hi, hz0, hz1, hz2⟩ := info_parts hi
  obtain ⟨ao, cap, rfl, hc1, hc2, hn, hcells⟩ := hrd
  have e0 : xs.length + ys.length = (xs ++ ys).length := by simp
  cases ao with
  | none =>
    obtain rfl := hn rfl
    obtain rfl : ys = [] := List.eq_nil_of_length_eq_zero (by omega)
    exact wpList_append_own_none hgd s x t ho B e i 1 ht hi v _ xs hs hown hx (h v w (by simpa using hown) (World.grownBy.refl _ _))
  | some ad =>
    refine wpList_append_own _ hgd s x t ho B e i z 1 bytes ht hi hz0 hz1 hz2 hz (by decide) v _ xs hs hown ad _ cap ys hx (by simp) (hcells ad rfl) h1 h63 hbytes hbase ?_
    intro v' w' ho' hg _
    exact h v' w' (by unfold Own; rw [← e0]; exact ho') hg
/-- APPEND of a string's bytes to what the call owns. -/
theorem wl_append_str (hgd : o.guard = none) (s x : Operand) (t u : TypeId)
    (ho : o.op = .call { callee := .builtin .append, args := #[s, x], argTypes := #[t, u] })
    {B e : Nat} (ht : P.underlying t = some (.slice e)) (hu : P.underlying u = some .string) (hi : (P.info? e).map (fun i => (i.zero, i.size, i.bytes)) = some (some (.int .u8 0), 1, 1))
    {v : Value} {xs : List Value} (st : ByteArray) (hs : a.eval s = v) (hx : a.eval x = .string st) (hown : Own B e w v xs)
    (h63 : xs.length + st.size ≤ 140737488355328) (hbase : B ≤ w.heap.size)
    (h : ∀ v' w', Own B e w' v' (xs ++ bys st.toList) → w.grownBy w' v.ownBlock → wpList P ops Q rest (a.put o.dst v') w') : wpList P ops Q (o :: rest) a w := by
  obtain ⟨i, hi, hz0, hz1, hz2⟩ := info_parts hi
  refine Lib.wpList_append_own_string w hgd s x t u ho B e i ht hu hi hz0 hz1 hz2 v _ xs hs hown st hx (by unfold maxLen; omega) h63 hbase ?_
  intro v' w' ho' hg _
  refine h v' w' ?_ hg
  rw [bys_str] at ho'
  unfold Own
  rw [List.length_append, bys_len, size_toList]
  exact ho'
/-- APPEND to a full slice that came in ('b[:len(b):len(b)]'): nothing is written; a new row, or what came in where nothing is appended. -/
theorem wl_append_full (hgd : o.guard = none) (s x : Operand) (t : TypeId)
    (ho : o.op = .call { callee := .builtin .append, args := #[s, x], argTypes := #[t, t] })
    {e bytes : Nat} {z : Value} (ht : P.underlying t = some (.slice e)) (hi : (P.info? e).map (fun i => (i.zero, i.size, i.bytes)) = some (some z, 1, bytes)) (hz : z.cells.size = 1)
    {ao : Option Addr} {n : Nat} {y : Value} {xs ys : List Value} (hs : a.eval s = .slice ao n n) (hx : a.eval x = y) (hrx : Rd w (.slice ao n n) xs) (hrd : Rd w y ys) (h1 : ∀ u ∈ ys, u.oneCell' = true)
    (hpos : 0 < ys.length) (h63 : xs.length + ys.length ≤ maxLen) (hbytes : (xs.length + ys.length) * bytes ≤ 140737488355328)
    (h : ∀ v' w', Own w.heap.size e w' v' (xs ++ ys) → w.grownBy w' none → wpList P ops Q rest (a.put o.dst v') w') : wpList P ops Q (o :: rest) a w := by
  obtain ⟨i, hi, hz0, hz1, hz2⟩ := info_parts hi
  obtain ⟨by_, oy, cy, rfl, hc1, hc2, hcells⟩ := hrd.pos hpos
  obtain ⟨ao', cap', e', g1, g2, g3, g4⟩ := hrx
  simp only [Value.slice.injEq] at e'
  obtain ⟨rfl, rfl, rfl⟩ := e'
  have e0 : xs.length + ys.length = (xs ++ ys).length := by simp
  refine wpList_append_grows _ hgd s x t ho e i z 1 bytes ht hi hz0 hz1 hz2 hz (by decide) ao _ _ xs hs (fun hn => ⟨g3 hn, g3 hn⟩) (by simp) g4 ⟨by_, oy, none⟩ _ cy ys hx (by simp)
    (fun j u hj => by rw [Addr.add_lit]; have := (List.getElem?_eq_some_iff.1 hj); rw [hcells j this.1, this.2]) h1 (by omega) h63 hbytes ?_
  intro v' w' ho' hg
  exact h v' w' (by unfold Own; rw [← e0]; exact ho') hg
/-- APPEND to what the call owns, as one step of a region that draws. -/
theorem step_append_any {K : Act → World → Prop} {Q : Exit → Act → World → Prop} {E : Prop} (hgd : o.guard = none) (s x : Operand) (t : TypeId)
    (ho : o.op = .call { callee := .builtin .append, args := #[s, x], argTypes := #[t, t] })
    {B e bytes : Nat} {z : Value} (ht : P.underlying t = some (.slice e)) (hi : (P.info? e).map (fun i => (i.zero, i.size, i.bytes)) = some (some z, 1, bytes)) (hz : z.cells.size = 1)
    {v y : Value} {xs ys : List Value} (hs : a.eval s = v) (hx : a.eval x = y) (hown : Own B e w v xs) (hrd : Rd w y ys) (h1 : ∀ u ∈ ys, u.oneCell' = true)
    (h63 : xs.length + ys.length ≤ maxLen) (hbytes : (xs.length + ys.length) * bytes ≤ 140737488355328) (hbase : B ≤ w.heap.size)
    (h : ∀ v' w', Own B e w' v' (xs ++ ys) → w.grownBy w' v.ownBlock → K (a.put o.dst v') w') : if Region.wanted o (yielded ops a.tmps) = true then Oper.wp P o a w K Q else E := by
  have hw : Region.wanted o (yielded ops a.tmps) = true := by simp [Region.wanted, hgd]
  rw [if_pos hw]
  obtain ⟨i, hi, hz0, hz1, hz2⟩ := info_parts hi
  obtain ⟨ao, cap, rfl, hc1, hc2, hn, hcells⟩ := hrd
  have e0 : xs.length + ys.length = (xs ++ ys).length := by simp
  cases ao with
  | none =>
    obtain rfl := hn rfl
    obtain rfl : ys = [] := List.eq_nil_of_length_eq_zero (by omega)
    have hrun := run_append_owned_none (P := P) (w := w) B t o.type e i 1 ht hi v _ xs hown
    unfold Oper.wp
    simp only [List.length_nil] at hx
    simp [execOp, ho, resolve, invoke, builtin, hs, hx, hrun, Result.andThen]
    exact h v w (by simpa using hown) (World.grownBy.refl _ _)
  | some ad =>
    obtain ⟨v', w', hrun, r1, r2, _⟩ := run_append_own (P := P) w B t o.type e i z 1 bytes ht hi hz0 hz1 hz2 hz (by decide) v _ xs hown ad _ cap ys (by simp) (hcells ad rfl) h1 h63 hbytes hbase
    unfold Oper.wp
    simp [execOp, ho, resolve, invoke, builtin, hs, hx, hrun, Result.andThen]
    exact h v' w' (by unfold Own; rw [← e0]; exact r1) r2
theorem Rd.of_str (w : World) (s : ByteArray) (e : TypeId) (fz : Nat × Nat) (cap : Nat) (h1 : s.size ≤ cap) (h2 : cap ≤ maxLen) :
    Rd (w.drew.alloc (.cells (bytesRow s cap) e fz)) (.slice (some ⟨w.heap.size, 0, none⟩) s.size cap) (bys s.toList) := by
  have hl : (bys s.toList).length = s.size := by rw [bys_len, size_toList]
  refine ⟨some ⟨w.heap.size, 0, none⟩, cap, by rw [hl], by rw [hl]; exact h1, h2, by simp, fun ad e' i u hu => ?_⟩
  cases e'
  rw [Addr.add_lit, Nat.zero_add, cell_of_row _ w.heap.size i _ e fz (heap_alloc_new w.drew _)]
  have hi : i < s.size := by have := (List.getElem?_eq_some_iff.1 hu).1; omega
  have hd : i < s.data.size := hi
  rw [← hu, ByteArray.toList_eq]
  simp only [bytesRow, bys]
  rw [Array.getElem?_append_left (by simpa using hd)]
  simp
/-- []byte(s). -/
theorem wl_bytes_of_str (hgd : o.guard = none) (x : Operand) (src dst e : TypeId) (ho : o.op = .convert src dst x)
    (hs : P.underlying src = some .string) (hd : P.underlying dst = some (.slice e)) (he : P.underlying e = some (.int .u8)) (s : ByteArray) (hx : a.eval x = .string s) (hl : s.size ≤ 9223372036854775807)
    (h : ∀ cap w', Rd w' (.slice (some ⟨w.heap.size, 0, none⟩) s.size cap) (bys s.toList) → w.grownBy w' none → wpList P ops Q rest (a.put o.dst (.slice (some ⟨w.heap.size, 0, none⟩) s.size cap)) w') :
    wpList P ops Q (o :: rest) a w := by
  refine wpList_plain hgd fun K hK => ?_
  have hrun := run_bytes_of_string (P := P) w src dst e s hs hd he
  have hrd := fun fz => Rd.of_str w s e fz (grownCap w s.size 0 e) (grownCap_ge _ _ _ _) (grownCap_le_maxLen _ _ _ _ (by unfold maxLen; omega))
  unfold Oper.wp
  simp only [execOp, ho, hx, Sem.run_bind, hrun, Result.andThen_ok, Sem.run_pure]
  exact hK _ _ (h _ _ (hrd _) ⟨rfl, rfl, rfl, by simp, fun k hk _ => (World.grownBy_alloc w.drew _ none).block k hk (by simp)⟩)
end laws

/-- A block known whole, behind a store. -/
theorem blk_set {w : World} {b : Nat} {cs : Array Value} {T : TypeId} {fz : Nat × Nat} (h : w.heap[b]? = some (.cells cs T fz)) (i : Nat) (v : Value) :
    (w.setCell ⟨b, i, none⟩ v).heap[b]? = some (.cells (cs.setIfInBounds i v) T fz) := by
  simp only [World.setCell, Array.getElem?_modify, if_true]
  rw [h]; rfl
theorem blk_cell {w : World} {b : Nat} {cs : Array Value} {T : TypeId} {fz : Nat × Nat} (h : w.heap[b]? = some (.cells cs T fz)) (i : Nat) : w.cell? ⟨b, i, none⟩ = cs[i]? := cell_of_row w b i cs T fz h
theorem blk_frozen {w : World} {b : Nat} {cs : Array Value} {T : TypeId} (h : w.heap[b]? = some (.cells cs T (0, 0))) (i : Nat) : w.frozen? ⟨b, i, none⟩ = false := by
  unfold World.frozen?; simp [h]
theorem blk_keep {S : Nat → Prop} {w w' : World} (hk : Kp S w w') {b : Nat} {o : Obj} (h : w.heap[b]? = some o) (hs : ¬ S b) : w'.heap[b]? = some o := by
  rw [hk.block b (Array.getElem?_eq_some_iff.1 h).1 hs]; exact h
theorem blk_lt {w : World} {b : Nat} {o : Obj} (h : w.heap[b]? = some o) : b < w.heap.size := (Array.getElem?_eq_some_iff.1 h).1

/-- string(b) of what reads as bytes. -/
theorem run_string_of {P : Program} {w : World} {v : Value} {l : List UInt8} (src e dst : TypeId) (hs : P.underlying src = some (.slice e)) (he : P.underlying e = some (.int .u8)) (hd : P.underlying dst = some .string)
    (h : Rd w v (bys l)) : (convert src dst v).run P w = .ok (.string ⟨l.toArray⟩) w := by
  obtain ⟨ao, cap, rfl, h1, h2, h3, h4⟩ := h
  cases ao with
  | none =>
    have := h3 rfl
    have hl : l = [] := List.eq_nil_of_length_eq_zero (by rw [bys_len] at h1; omega)
    subst hl
    rw [run_convert_bytes_nil (w := w) src e hs he _ _ dst hd]; rfl
  | some ad =>
    by_cases hp : 0 < l.length
    · have e0 := addr_eta (h4 ad rfl 0 _ (List.getElem?_eq_getElem (by rw [bys_len]; exact hp)))
      have hr := run_convert_bytes_arg (P := P) w src e hs he ad.block ad.off (bys l).length cap (l.map fun c => (c.toNat : Int)) (by simp [bys_len]) (fun i hi => by
        have := h4 ad rfl i _ (List.getElem?_eq_getElem hi)
        rw [e0, Addr.add_lit] at this
        rw [this]
        rw [bys_len] at hi
        simp [bys, hi]) dst hd
      rw [← e0] at hr
      rw [hr]
      congr 2
      refine str_ext ?_
      rw [ByteArray.toList_mk, ByteArray.toList_eq, strOfNums_data, List.map_map]
      simp [Function.comp_def]
    · have hl : l = [] := List.eq_nil_of_length_eq_zero (by omega)
      subst hl
      unfold convert
      simp [run_underlying hs, run_underlying hd, run_underlying he, bys]
      rfl

section laws2
variable {P : Program} {w : World} {ops : Array Oper} {rest : List Oper} {o : Oper} {a : Act} {Q : Exit → Act → World → Prop}
/-- string(b), as a law for the walk. -/
theorem wl_str_of (hgd : o.guard = none) (x : Operand) (src dst e : TypeId) (ho : o.op = .convert src dst x)
    (hs : P.underlying src = some (.slice e)) (he : P.underlying e = some (.int .u8)) (hd : P.underlying dst = some .string) {v : Value} {l : List UInt8} (hx : a.eval x = v) (hr : Rd w v (bys l))
    (h : ∀ s : ByteArray, s.toList = l → wpList P ops Q rest (a.put o.dst (.string s)) w) : wpList P ops Q (o :: rest) a w := by
  refine wpList_plain hgd fun K hK => ?_
  have hrun := run_string_of (P := P) src e dst hs he hd hr
  have h := h ⟨l.toArray⟩ (ByteArray.toList_mk l)
  unfold Oper.wp
  simp only [execOp, ho, hx, Sem.run_bind, hrun, Result.andThen_ok, Sem.run_pure]
  exact hK _ _ h
end laws2

/-- What a claim's frame tells of a []byte that came in. -/
theorem rd_row {w : World} {a : Option Addr} {len cap : Nat} {zs : List Int}
    (h : (a = none ∧ len = 0 ∧ cap = 0 ∧ zs = []) ∨ ∃ x, a = some x ∧ len ≤ cap ∧ cap ≤ maxLen ∧ zs.length = cap ∧ (∀ i, i < zs.length → w.cell? (x.add i) = some (.int .u8 (zs.getD i 0))) ∧ ∀ n ∈ zs, (Lit.int .u8 n).wf = true) :
    ∃ l : List UInt8, l.length = len ∧ Rd w (.slice a len cap) (bys l) := by
  rcases h with ⟨rfl, rfl, rfl, rfl⟩ | ⟨x, rfl, h1, h2, h3, h4, h5⟩
  · exact ⟨[], rfl, Rd.nil w⟩
  · have hl : ((zs.take len).map fun n => UInt8.ofNat n.toNat).length = len := by simp; omega
    refine ⟨(zs.take len).map fun n => UInt8.ofNat n.toNat, hl, some x, cap, by rw [bys_len, hl], by rw [bys_len, hl]; exact h1, h2, by simp, fun ad e i u hu => ?_⟩
    cases e
    have hi : i < len := by have := (List.getElem?_eq_some_iff.1 hu).1; rw [bys_len, hl] at this; exact this
    have hz : i < zs.length := by omega
    rw [h4 i hz, ← hu]
    have hm : zs[i] ∈ zs := List.getElem_mem hz
    have hw := h5 _ hm
    have hb : 0 ≤ zs[i] ∧ zs[i] ≤ 255 := by
      simp [Lit.wf, IntKind.min, IntKind.max, IntKind.signed, IntKind.bits] at hw
      omega
    have e0 : zs.getD i 0 = zs[i] := by rw [List.getD_eq_getElem?_getD, List.getElem?_eq_getElem hz]; rfl
    rw [e0]
    simp only [bys, List.map_map, List.getElem?_map, List.getElem?_take, if_pos hi, List.getElem?_eq_getElem hz, Option.map_some, Function.comp]
    congr 2
    have : (UInt8.ofNat zs[i].toNat).toNat = zs[i].toNat % 256 := by simp
    omega
end Go.Proofs.Ytbifdckmkogbgaa
