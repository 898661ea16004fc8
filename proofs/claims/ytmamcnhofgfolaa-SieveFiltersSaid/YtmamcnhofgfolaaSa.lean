/- General words for walks over slices of one-cell elements and over strings: frames, readings, owned rows, and laws on single operations. Nothing of the program stands here. XML as plain functions on lists of bytes: names, tags, elements, documents, as the program reads them; 'no': nothing is said. Nothing of the program stands here. A region that draws its order, walked once in an order of our own: operations that yield the same in every world that meets S are taken as soon as they may come up; every other one when nothing else may. Nothing of the program stands here. As XReg, but the condition on the worlds may grow stronger behind each operation that is no quiet one. Nothing of the program stands here. Values of several cells in a block. Slices of one's own that begin anywhere in their block: cut, and appended to. Nothing of the program stands here. A region that draws its order, walked by a tree: where two operations may come up, both are walked. Nothing of the program stands here. A region that draws its order, walked in one order: what is read ahead of the stores needs its condition only till the first of them (the wall). Nothing of the program stands here. A region that draws its order, walked by a tree: where two or three operations may come up, all are walked. Nothing of the program stands here. A region that draws its order, walked by a tree, with walls: what is read ahead of a store needs its condition only till then; an operation may wait for another one through any between. Nothing of the program stands here. Arrays of ints of any kind in a block. An array's element, by value. A function's own blocks: what its parameters and variables hold, one behind the other. Blocks of one's own, in any places. What a claim's frame tells of arguments: readings and bounds. A []int that came in. An array of bytes that came in by value. Elements in memory. Nothing of the program stands here. Append to rows of one's own whose elements have several cells: where the row lies, what changes. Nothing of the program stands here. Trees of nodes and of definitions in memory. Nothing of the program stands here. -/
import Derived.WalkKit
import Derived.WalkSpells
import Derived.WalkLawsBesides
import Derived.Lib.Hide
import Derived.Lib.AppendStr
import Derived.Laws.AppendOwnNone
import Derived.Deep.RegionLaw
import Derived.Lib.Strings
import Derived.Lib.IndexMore
import Derived.Lib.SlTrimSet
import Derived.OrdersHeld
import Derived.Deep.MidRow
import Derived.ArgAppend
import Derived.ProofKit
import Derived.OpenShut
import Derived.ShutString
import Derived.ChangeOld
import Derived.SliceStrings
import Derived.SizedLaws
import Derived.WideShapes
namespace Go.Proofs.Ytmamcnhofgfolaa
open Go Go.RowKit

/-- Bytes as cells. -/
def bys (l : List UInt8) : List Value := l.map fun c => .int .u8 (c.toNat : Int)
theorem bys_nil : bys [] = [] := rfl
theorem bys_len (l : List UInt8) : (bys l).length = l.length := by simp [bys]
theorem bys_app (a b : List UInt8) : bys (a ++ b) = bys a ++ bys b := by simp [bys]
theorem bys_get (l : List UInt8) (i : Nat) (h : i < l.length) : (bys l)[i]? = some (.int .u8 ((l[i]).toNat : Int)) := by simp [bys, h]
theorem bys_str (s : ByteArray) : Lib.strCells s = bys s.toList := by rw [ByteArray.toList_eq]; rfl
theorem bys_one (l : List UInt8) : ∀ u ∈ bys l, u.oneCell' = true := by
  intro u hu; obtain ⟨c, _, rfl⟩ := List.mem_map.1 hu; rfl
theorem size_toList (s : ByteArray) : s.toList.length = s.size := by rw [ByteArray.toList_eq, Array.length_toList]; rfl
theorem str_ext {s t : ByteArray} (h : s.toList = t.toList) : s = t := by
  rw [ByteArray.toList_eq, ByteArray.toList_eq] at h
  have : s.data = t.data := Array.ext' h
  cases s; cases t; simp at this; rw [this]
theorem str_mk (s : ByteArray) : s = ⟨s.toList.toArray⟩ := str_ext (ByteArray.toList_mk s.toList).symm

theorem nil_toList : ({ data := #[] } : ByteArray).toList = [] := by rw [ByteArray.toList_eq]
theorem extract_toList (s : ByteArray) (a b : Nat) : (s.extract a b).toList = (s.toList.drop a).take (b - a) := by
  obtain ⟨l, rfl⟩ : ∃ l : List UInt8, s = ⟨l.toArray⟩ := ⟨s.toList, str_mk s⟩
  rw [ByteArray.extract_mk, ByteArray.toList_mk, ByteArray.toList_mk]
/-- What was there stays, but for the blocks of S. -/
structure Kp (S : Nat → Prop) (w w' : World) : Prop where
  os : w'.os = w.os
  tape : w'.tape = w.tape
  output : w'.output = w.output
  size : w.heap.size ≤ w'.heap.size
  block : ∀ k, k < w.heap.size → ¬ S k → w'.heap[k]? = w.heap[k]?

abbrev Kp0 : World → World → Prop := Kp (fun _ => False)

section
variable {S T U : Nat → Prop} {a b c w w' : World}
theorem Kp.refl (S : Nat → Prop) (w : World) : Kp S w w := ⟨rfl, rfl, rfl, Nat.le_refl _, fun _ _ _ => rfl⟩
theorem Kp.trans (h : Kp S a b) (k : Kp T b c) (hu1 : ∀ i, i < a.heap.size → S i → U i) (hu2 : ∀ i, i < a.heap.size → T i → U i) : Kp U a c :=
  ⟨k.os.trans h.os, k.tape.trans h.tape, k.output.trans h.output, Nat.le_trans h.size k.size, fun i hi hn =>
    (k.block i (Nat.lt_of_lt_of_le hi h.size) (fun t => hn (hu2 i hi t))).trans (h.block i hi (fun t => hn (hu1 i hi t)))⟩
theorem Kp.tr (h : Kp S a b) (k : Kp S b c) : Kp S a c := h.trans k (fun _ _ h => h) (fun _ _ h => h)
theorem Kp.mono (h : Kp S a b) (hu : ∀ i, i < a.heap.size → S i → U i) : Kp U a b := ⟨h.os, h.tape, h.output, h.size, fun i hi hn => h.block i hi (fun t => hn (hu i hi t))⟩
theorem Kp.alloc (h : Kp S a b) (o : Obj) : Kp S a (b.alloc o) :=
  h.tr ⟨rfl, rfl, rfl, by simp, fun k hk _ => Below.heap_alloc _ _ _ (by omega)⟩
theorem Kp.drew (h : Kp S a b) : Kp S a b.drew := ⟨h.os, h.tape, h.output, h.size, h.block⟩
theorem Kp.drewN (h : Kp S a b) (n : Nat) : Kp S a (b.drewN n) := ⟨h.os, h.tape, h.output, h.size, h.block⟩
theorem Kp.setCell (h : Kp S a b) {p : Addr} (hp : p.block < a.heap.size → S p.block) (u : Value) : Kp S a (b.setCell p u) :=
  ⟨h.os, h.tape, h.output, by simpa [World.setCell] using h.size, fun k hk hn => by
    rw [Below.heap_setCell _ _ _ _ (fun e => hn (by subst e; exact hp hk))]; exact h.block k hk hn⟩
theorem Kp.grown (h : Kp S a b) {row : Option Nat} (hg : b.grownBy c row) (hr : ∀ k, row = some k → k < a.heap.size → S k) : Kp S a c :=
  ⟨hg.os.trans h.os, hg.tape.trans h.tape, hg.output.trans h.output, Nat.le_trans h.size hg.size, fun k hk hn =>
    (hg.block k (Nat.lt_of_lt_of_le hk h.size) (fun e => hn (hr k e.symm hk))).trans (h.block k hk hn)⟩
theorem Kp.of_below {B : Nat} (h : Below B w w') : Kp (fun k => B ≤ k) w w' := ⟨h.os, h.tape, h.output, h.size, fun k _ hn => h.block k (by omega)⟩
theorem Kp.below (h : Kp S w w') {B : Nat} (hB : B ≤ w.heap.size) (hS : ∀ k, k < B → ¬ S k) : Below B w w' := ⟨h.os, h.tape, h.output, h.size, fun k hk => h.block k (by omega) (hS k hk)⟩
theorem Kp.cell (h : Kp S w w') {p : Addr} {v : Value} (hc : w.cell? p = some v) (hp : ¬ S p.block) : w'.cell? p = some v :=
  (World.cell?_of_block (h.block p.block (World.block_lt_of_cell? w p hc) hp)).trans hc
theorem Kp.frozen (h : Kp S w w') {p : Addr} {v : Value} (hc : w.cell? p = some v) (hf : w.frozen? p = false) (hp : ¬ S p.block) : w'.frozen? p = false :=
  (World.frozen?_of_block (h.block p.block (World.block_lt_of_cell? w p hc) hp)).trans hf
theorem Kp.frozen' (h : Kp S w w') {p : Addr} (hl : p.block < w.heap.size) (hf : w.frozen? p = false) (hp : ¬ S p.block) : w'.frozen? p = false :=
  (World.frozen?_of_block (h.block p.block hl hp)).trans hf
theorem Kp.nil (S : Nat → Prop) (h : Kp0 w w') : Kp S w w' := h.mono (fun _ _ h => h.elim)
end

/-- v is a slice that reads as the cells xs. -/
def Rd (w : World) (v : Value) (xs : List Value) : Prop :=
  ∃ ao cap, v = .slice ao xs.length cap ∧ xs.length ≤ cap ∧ cap ≤ maxLen ∧ (ao = none → cap = 0) ∧
    ∀ ad, ao = some ad → ∀ i u, xs[i]? = some u → w.cell? (ad.add i) = some u

theorem Rd.nil (w : World) : Rd w (.slice none 0 0) [] := ⟨none, 0, rfl, Nat.le_refl _, Nat.zero_le _, fun _ => rfl, by simp⟩
theorem Rd.empty (w : World) (ao : Option Addr) (cap : Nat) (h : cap ≤ maxLen) (hn : ao = none → cap = 0) : Rd w (.slice ao 0 cap) [] := ⟨ao, cap, rfl, Nat.zero_le _, h, hn, by simp⟩
theorem add_block (ad : Addr) (i : Nat) : (ad.add i).block = ad.block := by unfold Addr.add; split <;> rfl
theorem Rd.keep {w w' : World} {v : Value} {xs : List Value} (h : Rd w v xs) {S : Nat → Prop} (hk : Kp S w w') (hs : ∀ b, v.ownBlock = some b → b < w.heap.size → ¬ S b) : Rd w' v xs := by
  obtain ⟨ao, cap, rfl, h1, h2, h3, h4⟩ := h
  refine ⟨ao, cap, rfl, h1, h2, h3, fun ad e i u hu => ?_⟩
  have hc := h4 ad e i u hu
  have hl := World.block_lt_of_cell? w _ hc
  rw [add_block] at hl
  exact hk.cell hc (by rw [add_block]; exact hs _ (by subst e; rfl) hl)
theorem Rd.keep0 {w w' : World} {v : Value} {xs : List Value} (h : Rd w v xs) (hk : Kp0 w w') : Rd w' v xs := h.keep hk (fun _ _ _ h => h)
theorem Rd.alloc {w : World} {v : Value} {xs : List Value} (h : Rd w v xs) (o : Obj) : Rd (w.alloc o) v xs := h.keep0 ((Kp.refl _ w).alloc o)
/-- The same cells under a smaller capacity. -/
theorem Rd.clip {w : World} {ao : Option Addr} {n cap : Nat} {xs : List Value} (h : Rd w (.slice ao n cap) xs) : Rd w (.slice ao n n) xs := by
  obtain ⟨ao', cap', e, g1, g2, g3, g4⟩ := h
  simp only [Value.slice.injEq] at e
  obtain ⟨rfl, rfl, rfl⟩ := e
  exact ⟨_, _, rfl, Nat.le_refl _, Nat.le_trans g1 g2, fun hn => by have := g3 hn; omega, g4⟩
theorem Rd.drew {w : World} {v : Value} {xs : List Value} (h : Rd w v xs) : Rd w.drew v xs := h
theorem addr_eta {w : World} {ad : Addr} {u : Value} (h : w.cell? (ad.add 0) = some u) : ad = ⟨ad.block, ad.off, none⟩ := by
  rw [Addr.add_zero'] at h
  unfold World.cell? at h
  split at h
  · split at h
    · cases h
    · cases ad; rename_i hs; simp at hs; subst hs; rfl
  · cases h
/-- A slice that is not empty: its address written out. -/
theorem Rd.pos {w : World} {v : Value} {xs : List Value} (h : Rd w v xs) (hx : 0 < xs.length) :
    ∃ b o cap, v = .slice (some ⟨b, o, none⟩) xs.length cap ∧ xs.length ≤ cap ∧ cap ≤ maxLen ∧ ∀ i (hi : i < xs.length), w.cell? ⟨b, o + i, none⟩ = some (xs[i]'hi) := by
  obtain ⟨ao, cap, rfl, h1, h2, h3, h4⟩ := h
  cases ao with
  | none => have := h3 rfl; omega
  | some ad =>
    have e := addr_eta (h4 ad rfl 0 _ (List.getElem?_eq_getElem hx))
    refine ⟨ad.block, ad.off, cap, by rw [← e], h1, h2, fun i hi => ?_⟩
    have hc := h4 ad rfl i _ (List.getElem?_eq_getElem hi)
    rw [e, Addr.add_lit] at hc
    exact hc
/-- A slice whose shape is written out. -/
theorem Rd.shape {w : World} {v : Value} {xs : List Value} (h : Rd w v xs) : ∃ ao cap, v = .slice ao xs.length cap ∧ xs.length ≤ cap ∧ cap ≤ maxLen ∧ (ao = none → cap = 0) := by
  obtain ⟨ao, cap, h0, h1, h2, h3, _⟩ := h; exact ⟨ao, cap, h0, h1, h2, h3⟩
theorem Rd.shapeB {w : World} {v : Value} {l : List UInt8} (h : Rd w v (bys l)) : ∃ ao cap, v = .slice ao l.length cap ∧ l.length ≤ cap ∧ cap ≤ 9223372036854775807 ∧ (ao = none → cap = 0) := by
  obtain ⟨ao, cap, h0, h1, h2, h3⟩ := h.shape
  rw [bys_len] at h0 h1
  exact ⟨ao, cap, h0, h1, h2, h3⟩
theorem Rd.posB {w : World} {v : Value} {l : List UInt8} (h : Rd w v (bys l)) (hx : 0 < l.length) :
    ∃ b o cap, v = .slice (some ⟨b, o, none⟩) l.length cap ∧ l.length ≤ cap ∧ cap ≤ 9223372036854775807 ∧ ∀ i (hi : i < l.length), w.cell? ⟨b, o + i, none⟩ = some (.int .u8 ((l[i]'hi).toNat : Int)) := by
  obtain ⟨b, o, cap, h0, h1, h2, h3⟩ := h.pos (by rw [bys_len]; exact hx)
  rw [bys_len] at h0 h1
  refine ⟨b, o, cap, h0, h1, h2, fun i hi => ?_⟩
  rw [h3 i (by rw [bys_len]; exact hi)]
  simp [bys]
/-- Cut: 'v[lo:hi:mx]' as the model writes it. -/
theorem Rd.cut {w : World} {ao : Option Addr} {n cap : Nat} {xs : List Value} (h : Rd w (.slice ao n cap) xs) (lo hi mx : Nat) (h1 : lo ≤ hi) (h2 : hi ≤ n) (h3 : hi ≤ mx) (h4 : mx ≤ cap) :
    Rd w (sliced ao lo hi mx 1) ((xs.drop lo).take (hi - lo)) := by
  obtain ⟨ao', cap', e, g1, g2, g3, g4⟩ := h
  simp only [Value.slice.injEq] at e
  obtain ⟨rfl, rfl, rfl⟩ := e
  have hlen : ((xs.drop lo).take (hi - lo)).length = hi - lo := by simp; omega
  refine ⟨if mx = lo then ao else ao.map (·.add (lo * 1)), mx - lo, by simp only [sliced, hlen], by omega, by omega, ?_, ?_⟩
  · intro hn
    split at hn
    · omega
    · cases ao with
      | none => have := g3 rfl; omega
      | some ad => simp at hn
  · intro ad had i u hu
    have hi2 : i < hi - lo := by have := (List.getElem?_eq_some_iff.1 hu).1; rw [hlen] at this; exact this
    rw [if_neg (by omega)] at had
    cases ao with
    | none => simp at had
    | some ad0 =>
      simp at had
      subst had
      rw [Addr.add_add]
      refine g4 ad0 rfl (lo + i) u ?_
      rw [List.getElem?_take, if_pos hi2, List.getElem?_drop] at hu
      exact hu

/-- 'v[k:]' where something is left. -/
theorem Rd.after {w : World} {b o n cap : Nat} {xs : List Value} (h : Rd w (.slice (some ⟨b, o, none⟩) n cap) xs) (k : Nat) (hk : k < n) : Rd w (.slice (some ⟨b, o + k, none⟩) (n - k) (cap - k)) (xs.drop k) := by
  obtain ⟨ao', cap', e, g1, _⟩ := id h
  simp only [Value.slice.injEq] at e
  have hn : n = xs.length := e.2.1
  have hc : xs.length ≤ cap := by rw [e.2.2]; exact g1
  have := h.cut k n cap (by omega) (Nat.le_refl _) (by omega) (Nat.le_refl _)
  unfold sliced at this
  rw [if_neg (by omega), List.take_of_length_le (by rw [List.length_drop]; omega)] at this
  simpa [Addr.add_lit] using this
theorem Rd.afterB {w : World} {b o n cap : Nat} {l : List UInt8} (h : Rd w (.slice (some ⟨b, o, none⟩) n cap) (bys l)) (k : Nat) (hk : k < n) : Rd w (.slice (some ⟨b, o + k, none⟩) (n - k) (cap - k)) (bys (l.drop k)) := by
  have := h.after k hk
  have e : (bys l).drop k = bys (l.drop k) := by simp [bys]
  rwa [e] at this
/-- 'v[n:]': nothing is left. -/
theorem Rd.endB {w : World} {ao : Option Addr} {n cap : Nat} {xs : List Value} (h : Rd w (.slice ao n cap) xs) : Rd w (sliced ao n n cap 1) (bys []) := by
  obtain ⟨ao', cap', e, g1, g2, g3, _⟩ := h
  simp only [Value.slice.injEq] at e
  obtain ⟨rfl, rfl, rfl⟩ := e
  have := Rd.empty w (if cap = xs.length then ao else ao.map (·.add (xs.length * 1))) (cap - xs.length) (by omega) (by
    intro hn
    split at hn
    · omega
    · cases ao with
      | none => have := g3 rfl; omega
      | some x => simp at hn)
  unfold sliced
  rw [Nat.sub_self]
  exact this
/-- The row of a value that the call itself made, from block B on. -/
abbrev Own (B : Nat) (e : TypeId) (w : World) (v : Value) (xs : List Value) : Prop := w.ownsRow B e 1 v xs.length xs

theorem Own.nil (B : Nat) (e : TypeId) (w : World) : Own B e w (.slice none 0 0) [] := World.ownsRow_nil w B e 1
theorem Own.rd {B : Nat} {e : TypeId} {w : World} {v : Value} {xs : List Value} (h : Own B e w v xs) : Rd w v xs := by
  rcases h.2 with ⟨rfl, h0⟩ | ⟨g, cap, cur, rfl, hb, hh, hn, hc, hs, ht⟩
  · obtain rfl := List.eq_nil_of_length_eq_zero h0; exact Rd.nil w
  · refine ⟨some ⟨g, 0, none⟩, cap, rfl, hn, hc, by simp, fun ad e' i u hu => ?_⟩
    cases e'
    exact h.cells (g := g) rfl i u hu
theorem Own.keep {B : Nat} {e : TypeId} {w w' : World} {v : Value} {xs : List Value} (h : Own B e w v xs) {S : Nat → Prop} (hk : Kp S w w') (hs : ∀ b, v.ownBlock = some b → B ≤ b → b < w.heap.size → ¬ S b) : Own B e w' v xs := by
  refine ⟨h.1, ?_⟩
  rcases h.2 with h0 | ⟨g, cap, cur, rfl, hb, hh, r⟩
  · exact .inl h0
  · have hl := (Array.getElem?_eq_some_iff.1 hh).1
    exact .inr ⟨g, cap, cur, rfl, hb, by rw [hk.block g hl (hs g rfl hb hl)]; exact hh, r⟩
theorem Own.keep0 {B : Nat} {e : TypeId} {w w' : World} {v : Value} {xs : List Value} (h : Own B e w v xs) (hk : Kp0 w w') : Own B e w' v xs := h.keep hk (fun _ _ _ _ h => h)
theorem Own.lt {B : Nat} {e : TypeId} {w : World} {v : Value} {xs : List Value} (h : Own B e w v xs) : ∀ b, v.ownBlock = some b → B ≤ b ∧ b < w.heap.size := World.ownsRow.lt h
theorem Own.base {B B' : Nat} {e : TypeId} {w : World} {v : Value} {xs : List Value} (h : Own B e w v xs) (hb : B' ≤ B) : Own B' e w v xs :=
  ⟨h.1, h.2.imp id fun ⟨g, cap, cur, h1, h2, h3⟩ => ⟨g, cap, cur, h1, Nat.le_trans hb h2, h3⟩⟩

/-- A slice's literal: a new block, written out. -/
theorem Rd.lit (w : World) (cs : Array Value) (e : TypeId) (fz : Nat × Nat) (n : Nat) (hn : cs.size = n) (hm : n ≤ 9223372036854775807) : Rd (w.alloc (.cells cs e fz)) (.slice (some ⟨w.heap.size, 0, none⟩) n n) cs.toList := by
  subst hn
  refine ⟨some ⟨w.heap.size, 0, none⟩, cs.size, by rw [Array.length_toList], by rw [Array.length_toList]; exact Nat.le_refl _, by unfold maxLen; omega, by simp, fun ad e' i u hu => ?_⟩
  cases e'
  rw [Addr.add_lit, Nat.zero_add]
  rw [cell_of_row _ w.heap.size i cs e fz (heap_alloc_new w _)]
  simpa using hu

/-- What 'make([]T, n)' lays is owned. -/
theorem Own.made (w : World) (z : Value) (n : Nat) (e : TypeId) (hn : n ≤ 9223372036854775807) : Own w.heap.size e (w.alloc (.cells (madeCells #[z] n) e)) (.slice (some ⟨w.heap.size, 0, none⟩) n n) (List.replicate n z) := by
  have hs : (madeCells #[z] n).size = n := by rw [← Array.length_toList, toList_madeCells_one, List.length_replicate]
  have h := World.ownsRow_lit (base := w.heap.size) (e := e) (size := 1) w (madeCells #[z] n) n (Nat.le_refl _) (by unfold maxLen; omega) (by rw [hs]; omega)
  rw [toList_madeCells_one] at h
  unfold Own
  rw [List.length_replicate]
  exact h

/-- A slice's literal is owned. -/
theorem Own.lit (w : World) (cs : Array Value) (e : TypeId) (n : Nat) (hn : cs.size = n) (hm : n ≤ 9223372036854775807) : Own w.heap.size e (w.alloc (.cells cs e)) (.slice (some ⟨w.heap.size, 0, none⟩) n n) cs.toList := by
  have h := World.ownsRow_lit (base := w.heap.size) (e := e) (size := 1) w cs n (Nat.le_refl _) (by unfold maxLen; omega) (by omega)
  unfold Own
  rw [Array.length_toList, hn]
  exact h
/-- Texts as cells. -/
def strs (l : List ByteArray) : List Value := l.map Value.string
theorem strs_len (l : List ByteArray) : (strs l).length = l.length := by simp [strs]
theorem Rd.shapeS {w : World} {v : Value} {l : List ByteArray} (h : Rd w v (strs l)) : ∃ ao cap, v = .slice ao l.length cap ∧ l.length ≤ cap ∧ cap ≤ 9223372036854775807 ∧ (ao = none → cap = 0) := by
  obtain ⟨ao, cap, h0, h1, h2, h3⟩ := h.shape
  rw [strs_len] at h0 h1
  exact ⟨ao, cap, h0, h1, h2, h3⟩
theorem Rd.posS {w : World} {v : Value} {l : List ByteArray} (h : Rd w v (strs l)) (hx : 0 < l.length) :
    ∃ b o cap, v = .slice (some ⟨b, o, none⟩) l.length cap ∧ l.length ≤ cap ∧ cap ≤ 9223372036854775807 ∧ ∀ i (hi : i < l.length), w.cell? ⟨b, o + i, none⟩ = some (.string (l[i]'hi)) := by
  obtain ⟨b, o, cap, h0, h1, h2, h3⟩ := h.pos (by rw [strs_len]; exact hx)
  rw [strs_len] at h0 h1
  refine ⟨b, o, cap, h0, h1, h2, fun i hi => ?_⟩
  rw [h3 i (by rw [strs_len]; exact hi)]
  simp [strs]

section laws
variable {P : Program} {w : World} {ops : Array Oper} {rest : List Oper} {o : Oper} {a : Act} {Q : Exit → Act → World → Prop}
/-- APPEND of what reads as ys to what the call owns. -/
theorem wl_append_own (hgd : o.guard = none) (s x : Operand) (t : TypeId)
    (ho : o.op = .call { callee := .builtin .append, args := #[s, x], argTypes := #[t, t] })
    {B e bytes : Nat} {z : Value} (ht : P.underlying t = some (.slice e)) (hi : (P.info? e).map (fun i => (i.zero, i.size, i.bytes)) = some (some z, 1, bytes)) (hz : z.cells.size = 1)
    {v y : Value} {xs ys : List Value} (hs : a.eval s = v) (hx : a.eval x = y) (hown : Own B e w v xs) (hrd : Rd w y ys) (h1 : ∀ u ∈ ys, u.oneCell' = true)
    (h63 : xs.length + ys.length ≤ maxLen) (hbytes : (xs.length + ys.length) * bytes ≤ 140737488355328) (hbase : B ≤ w.heap.size)
    (h : ∀ v' w', Own B e w' v' (xs ++ ys) → w.grownBy w' v.ownBlock → wpList P ops Q rest (a.put o.dst v') w') : wpList P ops Q (o :: rest) a w := by
  obtain ⟨i, hi, hz0, hz1, hz2⟩ := info_parts hi
  obtain ⟨ao, cap, rfl, hc1, hc2, hn, hcells⟩ := hrd
  have e0 : xs.length + ys.length = (xs ++ ys).length := by simp
  cases ao with
  | none =>
    obtain rfl := hn rfl
    obtain rfl : ys = [] := List.eq_nil_of_length_eq_zero (by omega)
    exact wpList_append_own_none hgd s x t ho B e i 1 ht hi v _ xs hs hown hx (h v w (by simpa using hown) (World.grownBy.refl _ _))
  | some ad =>
    refine wpList_append_own _ hgd s x t ho B e i z 1 bytes ht hi hz0 hz1 hz2 hz (by decide) v _ xs hs hown ad _ cap ys hx (by simp) (hcells ad rfl) h1 h63 hbytes hbase ?_
    intro v' w' ho' hg _
    exact h v' w' (by unfold Own; rw [← e0]; exact ho') hg
/-- APPEND of a string's bytes to what the call owns. -/
theorem wl_append_str (hgd : o.guard = none) (s x : Operand) (t u : TypeId)
    (ho : o.op = .call { callee := .builtin .append, args := #[s, x], argTypes := #[t, u] })
    {B e : Nat} (ht : P.underlying t = some (.slice e)) (hu : P.underlying u = some .string) (hi : (P.info? e).map (fun i => (i.zero, i.size, i.bytes)) = some (some (.int .u8 0), 1, 1))
    {v : Value} {xs : List Value} (st : ByteArray) (hs : a.eval s = v) (hx : a.eval x = .string st) (hown : Own B e w v xs)
    (h63 : xs.length + st.size ≤ 140737488355328) (hbase : B ≤ w.heap.size)
    (h : ∀ v' w', Own B e w' v' (xs ++ bys st.toList) → w.grownBy w' v.ownBlock → wpList P ops Q rest (a.put o.dst v') w') : wpList P ops Q (o :: rest) a w := by
  obtain ⟨i, hi, hz0, hz1, hz2⟩ := info_parts hi
  refine Lib.wpList_append_own_string w hgd s x t u ho B e i ht hu hi hz0 hz1 hz2 v _ xs hs hown st hx (by unfold maxLen; omega) h63 hbase ?_
  intro v' w' ho' hg _
  refine h v' w' ?_ hg
  rw [bys_str] at ho'
  unfold Own
  rw [List.length_append, bys_len, size_toList]
  exact ho'
/-- APPEND to a full slice that came in ('b[:len(b):len(b)]'): nothing is written; a new row, or what came in where nothing is appended. -/
theorem wl_append_full (hgd : o.guard = none) (s x : Operand) (t : TypeId)
    (ho : o.op = .call { callee := .builtin .append, args := #[s, x], argTypes := #[t, t] })
    {e bytes : Nat} {z : Value} (ht : P.underlying t = some (.slice e)) (hi : (P.info? e).map (fun i => (i.zero, i.size, i.bytes)) = some (some z, 1, bytes)) (hz : z.cells.size = 1)
    {ao : Option Addr} {n : Nat} {y : Value} {xs ys : List Value} (hs : a.eval s = .slice ao n n) (hx : a.eval x = y) (hrx : Rd w (.slice ao n n) xs) (hrd : Rd w y ys) (h1 : ∀ u ∈ ys, u.oneCell' = true)
    (hpos : 0 < ys.length) (h63 : xs.length + ys.length ≤ maxLen) (hbytes : (xs.length + ys.length) * bytes ≤ 140737488355328)
    (h : ∀ v' w', Own w.heap.size e w' v' (xs ++ ys) → w.grownBy w' none → wpList P ops Q rest (a.put o.dst v') w') : wpList P ops Q (o :: rest) a w := by
  obtain ⟨i, hi, hz0, hz1, hz2⟩ := info_parts hi
  obtain ⟨by_, oy, cy, rfl, hc1, hc2, hcells⟩ := hrd.pos hpos
  obtain ⟨ao', cap', e', g1, g2, g3, g4⟩ := hrx
  simp only [Value.slice.injEq] at e'
  obtain ⟨rfl, rfl, rfl⟩ := e'
  have e0 : xs.length + ys.length = (xs ++ ys).length := by simp
  refine wpList_append_grows _ hgd s x t ho e i z 1 bytes ht hi hz0 hz1 hz2 hz (by decide) ao _ _ xs hs (fun hn => ⟨g3 hn, g3 hn⟩) (by simp) g4 ⟨by_, oy, none⟩ _ cy ys hx (by simp)
    (fun j u hj => by rw [Addr.add_lit]; have := (List.getElem?_eq_some_iff.1 hj); rw [hcells j this.1, this.2]) h1 (by omega) h63 hbytes ?_
  intro v' w' ho' hg
  exact h v' w' (by unfold Own; rw [← e0]; exact ho') hg
/-- APPEND to what the call owns, as one step of a region that draws. -/
theorem step_append_any {K : Act → World → Prop} {Q : Exit → Act → World → Prop} {E : Prop} (hgd : o.guard = none) (s x : Operand) (t : TypeId)
    (ho : o.op = .call { callee := .builtin .append, args := #[s, x], argTypes := #[t, t] })
    {B e bytes : Nat} {z : Value} (ht : P.underlying t = some (.slice e)) (hi : (P.info? e).map (fun i => (i.zero, i.size, i.bytes)) = some (some z, 1, bytes)) (hz : z.cells.size = 1)
    {v y : Value} {xs ys : List Value} (hs : a.eval s = v) (hx : a.eval x = y) (hown : Own B e w v xs) (hrd : Rd w y ys) (h1 : ∀ u ∈ ys, u.oneCell' = true)
    (h63 : xs.length + ys.length ≤ maxLen) (hbytes : (xs.length + ys.length) * bytes ≤ 140737488355328) (hbase : B ≤ w.heap.size)
    (h : ∀ v' w', Own B e w' v' (xs ++ ys) → w.grownBy w' v.ownBlock → K (a.put o.dst v') w') : if Region.wanted o (yielded ops a.tmps) = true then Oper.wp P o a w K Q else E := by
  have hw : Region.wanted o (yielded ops a.tmps) = true := by simp [Region.wanted, hgd]
  rw [if_pos hw]
  obtain ⟨i, hi, hz0, hz1, hz2⟩ := info_parts hi
  obtain ⟨ao, cap, rfl, hc1, hc2, hn, hcells⟩ := hrd
  have e0 : xs.length + ys.length = (xs ++ ys).length := by simp
  cases ao with
  | none =>
    obtain rfl := hn rfl
    obtain rfl : ys = [] := List.eq_nil_of_length_eq_zero (by omega)
    have hrun := run_append_owned_none (P := P) (w := w) B t o.type e i 1 ht hi v _ xs hown
    unfold Oper.wp
    simp only [List.length_nil] at hx
    simp [execOp, ho, resolve, invoke, builtin, hs, hx, hrun, Result.andThen]
    exact h v w (by simpa using hown) (World.grownBy.refl _ _)
  | some ad =>
    obtain ⟨v', w', hrun, r1, r2, _⟩ := run_append_own (P := P) w B t o.type e i z 1 bytes ht hi hz0 hz1 hz2 hz (by decide) v _ xs hown ad _ cap ys (by simp) (hcells ad rfl) h1 h63 hbytes hbase
    unfold Oper.wp
    simp [execOp, ho, resolve, invoke, builtin, hs, hx, hrun, Result.andThen]
    exact h v' w' (by unfold Own; rw [← e0]; exact r1) r2
theorem Rd.of_str (w : World) (s : ByteArray) (e : TypeId) (fz : Nat × Nat) (cap : Nat) (h1 : s.size ≤ cap) (h2 : cap ≤ maxLen) :
    Rd (w.drew.alloc (.cells (bytesRow s cap) e fz)) (.slice (some ⟨w.heap.size, 0, none⟩) s.size cap) (bys s.toList) := by
  have hl : (bys s.toList).length = s.size := by rw [bys_len, size_toList]
  refine ⟨some ⟨w.heap.size, 0, none⟩, cap, by rw [hl], by rw [hl]; exact h1, h2, by simp, fun ad e' i u hu => ?_⟩
  cases e'
  rw [Addr.add_lit, Nat.zero_add, cell_of_row _ w.heap.size i _ e fz (heap_alloc_new w.drew _)]
  have hi : i < s.size := by have := (List.getElem?_eq_some_iff.1 hu).1; omega
  have hd : i < s.data.size := hi
  rw [← hu, ByteArray.toList_eq]
  simp only [bytesRow, bys]
  rw [Array.getElem?_append_left (by simpa using hd)]
  simp
/-- []byte(s). -/
theorem wl_bytes_of_str (hgd : o.guard = none) (x : Operand) (src dst e : TypeId) (ho : o.op = .convert src dst x)
    (hs : P.underlying src = some .string) (hd : P.underlying dst = some (.slice e)) (he : P.underlying e = some (.int .u8)) (s : ByteArray) (hx : a.eval x = .string s) (hl : s.size ≤ 9223372036854775807)
    (h : ∀ cap w', Rd w' (.slice (some ⟨w.heap.size, 0, none⟩) s.size cap) (bys s.toList) → w.grownBy w' none → wpList P ops Q rest (a.put o.dst (.slice (some ⟨w.heap.size, 0, none⟩) s.size cap)) w') :
    wpList P ops Q (o :: rest) a w := by
  refine wpList_plain hgd fun K hK => ?_
  have hrun := run_bytes_of_string (P := P) w src dst e s hs hd he
  have hrd := fun fz => Rd.of_str w s e fz (grownCap w s.size 0 e) (grownCap_ge _ _ _ _) (grownCap_le_maxLen _ _ _ _ (by unfold maxLen; omega))
  unfold Oper.wp
  simp only [execOp, ho, hx, Sem.run_bind, hrun, Result.andThen_ok, Sem.run_pure]
  exact hK _ _ (h _ _ (hrd _) ⟨rfl, rfl, rfl, by simp, fun k hk _ => (World.grownBy_alloc w.drew _ none).block k hk (by simp)⟩)
end laws

/-- A block known whole, behind a store. -/
theorem blk_set {w : World} {b : Nat} {cs : Array Value} {T : TypeId} {fz : Nat × Nat} (h : w.heap[b]? = some (.cells cs T fz)) (i : Nat) (v : Value) :
    (w.setCell ⟨b, i, none⟩ v).heap[b]? = some (.cells (cs.setIfInBounds i v) T fz) := by
  simp only [World.setCell, Array.getElem?_modify, if_true]
  rw [h]; rfl
theorem blk_cell {w : World} {b : Nat} {cs : Array Value} {T : TypeId} {fz : Nat × Nat} (h : w.heap[b]? = some (.cells cs T fz)) (i : Nat) : w.cell? ⟨b, i, none⟩ = cs[i]? := cell_of_row w b i cs T fz h
theorem blk_frozen {w : World} {b : Nat} {cs : Array Value} {T : TypeId} (h : w.heap[b]? = some (.cells cs T (0, 0))) (i : Nat) : w.frozen? ⟨b, i, none⟩ = false := by
  unfold World.frozen?; simp [h]
theorem blk_keep {S : Nat → Prop} {w w' : World} (hk : Kp S w w') {b : Nat} {o : Obj} (h : w.heap[b]? = some o) (hs : ¬ S b) : w'.heap[b]? = some o := by
  rw [hk.block b (Array.getElem?_eq_some_iff.1 h).1 hs]; exact h
theorem blk_lt {w : World} {b : Nat} {o : Obj} (h : w.heap[b]? = some o) : b < w.heap.size := (Array.getElem?_eq_some_iff.1 h).1

/-- string(b) of what reads as bytes. -/
theorem run_string_of {P : Program} {w : World} {v : Value} {l : List UInt8} (src e dst : TypeId) (hs : P.underlying src = some (.slice e)) (he : P.underlying e = some (.int .u8)) (hd : P.underlying dst = some .string)
    (h : Rd w v (bys l)) : (convert src dst v).run P w = .ok (.string ⟨l.toArray⟩) w := by
  obtain ⟨ao, cap, rfl, h1, h2, h3, h4⟩ := h
  cases ao with
  | none =>
    have := h3 rfl
    have hl : l = [] := List.eq_nil_of_length_eq_zero (by rw [bys_len] at h1; omega)
    subst hl
    rw [run_convert_bytes_nil (w := w) src e hs he _ _ dst hd]; rfl
  | some ad =>
    by_cases hp : 0 < l.length
    · have e0 := addr_eta (h4 ad rfl 0 _ (List.getElem?_eq_getElem (by rw [bys_len]; exact hp)))
      have hr := run_convert_bytes_arg (P := P) w src e hs he ad.block ad.off (bys l).length cap (l.map fun c => (c.toNat : Int)) (by simp [bys_len]) (fun i hi => by
        have := h4 ad rfl i _ (List.getElem?_eq_getElem hi)
        rw [e0, Addr.add_lit] at this
        rw [this]
        rw [bys_len] at hi
        simp [bys, hi]) dst hd
      rw [← e0] at hr
      rw [hr]
      congr 2
      refine str_ext ?_
      rw [ByteArray.toList_mk, ByteArray.toList_eq, strOfNums_data, List.map_map]
      simp [Function.comp_def]
    · have hl : l = [] := List.eq_nil_of_length_eq_zero (by omega)
      subst hl
      unfold convert
      simp [run_underlying hs, run_underlying hd, run_underlying he, bys]
      rfl

section laws2
variable {P : Program} {w : World} {ops : Array Oper} {rest : List Oper} {o : Oper} {a : Act} {Q : Exit → Act → World → Prop}
/-- string(b), as a law for the walk. -/
theorem wl_str_of (hgd : o.guard = none) (x : Operand) (src dst e : TypeId) (ho : o.op = .convert src dst x)
    (hs : P.underlying src = some (.slice e)) (he : P.underlying e = some (.int .u8)) (hd : P.underlying dst = some .string) {v : Value} {l : List UInt8} (hx : a.eval x = v) (hr : Rd w v (bys l))
    (h : ∀ s : ByteArray, s.toList = l → wpList P ops Q rest (a.put o.dst (.string s)) w) : wpList P ops Q (o :: rest) a w := by
  refine wpList_plain hgd fun K hK => ?_
  have hrun := run_string_of (P := P) src e dst hs he hd hr
  have h := h ⟨l.toArray⟩ (ByteArray.toList_mk l)
  unfold Oper.wp
  simp only [execOp, ho, hx, Sem.run_bind, hrun, Result.andThen_ok, Sem.run_pure]
  exact hK _ _ h
end laws2

/-- What a claim's frame tells of a []byte that came in. -/
theorem rd_row {w : World} {a : Option Addr} {len cap : Nat} {zs : List Int}
    (h : (a = none ∧ len = 0 ∧ cap = 0 ∧ zs = []) ∨ ∃ x, a = some x ∧ len ≤ cap ∧ cap ≤ maxLen ∧ zs.length = cap ∧ (∀ i, i < zs.length → w.cell? (x.add i) = some (.int .u8 (zs.getD i 0))) ∧ ∀ n ∈ zs, (Lit.int .u8 n).wf = true) :
    ∃ l : List UInt8, l.length = len ∧ Rd w (.slice a len cap) (bys l) := by
  rcases h with ⟨rfl, rfl, rfl, rfl⟩ | ⟨x, rfl, h1, h2, h3, h4, h5⟩
  · exact ⟨[], rfl, Rd.nil w⟩
  · have hl : ((zs.take len).map fun n => UInt8.ofNat n.toNat).length = len := by simp; omega
    refine ⟨(zs.take len).map fun n => UInt8.ofNat n.toNat, hl, some x, cap, by rw [bys_len, hl], by rw [bys_len, hl]; exact h1, h2, by simp, fun ad e i u hu => ?_⟩
    cases e
    have hi : i < len := by have := (List.getElem?_eq_some_iff.1 hu).1; rw [bys_len, hl] at this; exact this
    have hz : i < zs.length := by omega
    rw [h4 i hz, ← hu]
    have hm : zs[i] ∈ zs := List.getElem_mem hz
    have hw := h5 _ hm
    have hb : 0 ≤ zs[i] ∧ zs[i] ≤ 255 := by
      simp [Lit.wf, IntKind.min, IntKind.max, IntKind.signed, IntKind.bits] at hw
      omega
    have e0 : zs.getD i 0 = zs[i] := by rw [List.getD_eq_getElem?_getD, List.getElem?_eq_getElem hz]; rfl
    rw [e0]
    simp only [bys, List.map_map, List.getElem?_map, List.getElem?_take, if_pos hi, List.getElem?_eq_getElem hz, Option.map_some, Function.comp]
    congr 2
    have : (UInt8.ofNat zs[i].toNat).toNat = zs[i].toNat % 256 := by simp
    omega
end Go.Proofs.Ytmamcnhofgfolaa
namespace Go.Proofs.Ytmamcnhofgfolaa
open Go Go.RowKit

/-- A text of these bytes. -/
def S (l : List UInt8) : ByteArray := ⟨l.toArray⟩
theorem S_toList (l : List UInt8) : (S l).toList = l := ByteArray.toList_mk l
theorem S_data (l : List UInt8) : (S l).data.toList = l := rfl
theorem S_size (l : List UInt8) : (S l).size = l.length := by rw [← size_toList, S_toList]
theorem S_of (t : ByteArray) : S t.toList = t := str_ext (S_toList _)
theorem S_app (a b : List UInt8) : S a ++ S b = S (a ++ b) := str_ext (by
  rw [S_toList, ByteArray.toList_eq]
  show (ByteArray.append (S a) (S b)).data.toList = _
  simp [S])
theorem S_inj {a b : List UInt8} (h : S a = S b) : a = b := by rw [← S_toList a, h, S_toList]

/-- How a reading ends. -/
inductive R (α : Type) where
  | no
  | bad (e : Nat)
  | ok (a : α)

def R.bind {α β : Type} : R α → (α → R β) → R β
  | .no, _ => .no
  | .bad e, _ => .bad e
  | .ok a, f => f a

def isBlank (c : UInt8) : Bool := [32, 9, 10, 13].contains c
def beginsN (c : Nat) : Bool := (decide (97 ≤ c) && decide (c ≤ 122)) || (decide (65 ≤ c) && decide (c ≤ 90)) || c == 95
def inNameN (c : Nat) : Bool := beginsN c || (decide (48 ≤ c) && decide (c ≤ 57)) || c == 45 || c == 46
def beginsC (c : UInt8) : Bool := beginsN c.toNat
def inNameC (c : UInt8) : Bool := inNameN c.toNat
def isName : List UInt8 → Bool
  | [] => false
  | c :: l => beginsC c && l.all inNameC && decide (l.length + 1 ≤ 32)
def signN (c : Nat) : Bool := (decide (32 ≤ c) && decide (c ≤ 126)) || c == 9 || c == 10 || c == 13
def signC (c : UInt8) : Bool := signN c.toNat

abbrev Wn := List UInt8 × List UInt8
abbrev Att := Wn × List UInt8
abbrev Say := List (List UInt8 × List UInt8)

/-- An element. -/
inductive PE where
  | mk (space name : List UInt8) (attrs : List (List UInt8 × List UInt8)) (text : List UInt8) (kids : List PE)

def PE.put : PE → List UInt8 → List PE → PE
  | .mk sp nm at_ _ _, tx, ks => .mk sp nm at_ tx ks

def dropB (l : List UInt8) : List UInt8 := Lib.trimLeftS l [32, 9, 10, 13]
def nameX (l : List UInt8) : List UInt8 × List UInt8 := (l.takeWhile inNameC, l.dropWhile inNameC)
def writtenX (l : List UInt8) : (Wn × Bool) × List UInt8 :=
  if isName (nameX l).1 && Lib.hasPrefix (nameX l).2 [58] then
    ((((nameX l).1, (nameX ((nameX l).2.drop 1)).1), isName (nameX ((nameX l).2.drop 1)).1), (nameX ((nameX l).2.drop 1)).2)
  else ((([], (nameX l).1), isName (nameX l).1), (nameX l).2)

/-- A text without its entities. -/
def entX (s : List UInt8) : R (List UInt8) := if s.contains 38 then .no else .ok s

def quoteX (l : List UInt8) : Option (List UInt8) := if Lib.hasPrefix l [34] then some [34] else if Lib.hasPrefix l [39] then some [39] else none
def valueX (l : List UInt8) : R (List UInt8 × List UInt8) :=
  match quoteX l with
  | none => .bad 3
  | some q =>
    match Lib.cut (l.drop 1) q with
    | (_, _, false) => .bad 3
    | (t, r, true) => if Lib.contains t [60] then .bad 3 else (entX t).bind fun v => .ok (v, r)

def hasX (l : List Att) (n : Wn) : Bool := l.any fun a => a.1 == n
def attrX (l : List Att) (s : List UInt8) : R (List Att × List UInt8) :=
  if (writtenX s).1.2 = false ∨ hasX l (writtenX s).1.1 = true ∨ l.length = 32 then .bad 3
  else if Lib.hasPrefix (dropB (writtenX s).2) [61] = false then .bad 3
  else (valueX (dropB ((dropB (writtenX s).2).drop 1))).bind fun x => .ok (l ++ [((writtenX s).1.1, x.1)], x.2)

def tagLoop : Nat → List Att → List UInt8 → R ((List Att × Bool) × List UInt8)
  | 0, _, _ => .no
  | f + 1, l, s =>
    if Lib.hasPrefix (dropB s) [62] then .ok ((l, false), (dropB s).drop 1)
    else if Lib.hasPrefix (dropB s) [47, 62] then .ok ((l, true), (dropB s).drop 2)
    else if (dropB s).length < s.length then (attrX l (dropB s)).bind fun x => tagLoop f x.1 x.2
    else .bad 3
structure Tg where
  name : Wn
  attrs : List Att
  empty : Bool
def tagX (s : List UInt8) : R (Tg × List UInt8) :=
  if Lib.hasPrefix s [60] = false then .bad 3
  else if (writtenX (s.drop 1)).1.2 = false then .bad 3
  else (tagLoop 40 [] (writtenX (s.drop 1)).2).bind fun x => .ok (⟨(writtenX (s.drop 1)).1.1, x.1.1, x.1.2⟩, x.2)

def xmlnsC : List UInt8 := [120, 109, 108, 110, 115]
def hearX (said : Say) (a : Att) : Option Say :=
  if a.1 = ([], xmlnsC) then some (said ++ [([], a.2)])
  else if a.1.2 = xmlnsC then none
  else if a.1.1 = xmlnsC then (if a.2 = [] then none else some (said ++ [(a.1.2, a.2)]))
  else some said
def hearsX : Say → List Att → Option Say
  | said, [] => some said
  | said, a :: l => match hearX said a with
    | none => none
    | some s => hearsX s l
def spaceX (said : Say) (p : List UInt8) : List UInt8 × Bool :=
  match said.reverse.find? (fun x => x.1 == p) with
  | some x => (x.2, true)
  | none => ([], p == [])
def plainAtts (l : List Att) : List Att := l.filter fun a => !(a.1.1 == xmlnsC || a.1.2 == xmlnsC)
def attrsX (said : Say) (l : List Att) : R (List (List UInt8 × List UInt8)) :=
  if (plainAtts l).all (fun a => (spaceX said a.1.1).2) = false then .bad 3
  else if 2 ≤ (plainAtts l).length then .no
  else .ok ((plainAtts l).map fun a => (a.1.2, a.2))
def beginX (said : Say) (t : Tg) : R (Say × PE) :=
  match hearsX said t.attrs with
  | none => .bad 3
  | some s =>
    if (spaceX s t.name.1).2 = false then .bad 3
    else (attrsX s t.attrs).bind fun l => .ok (s, .mk (spaceX s t.name.1).1 t.name.2 l [] [])

def commentX (l : List UInt8) : Option (List UInt8) :=
  match Lib.cut l [45, 45] with
  | (_, _, false) => none
  | (_, r, true) => if Lib.hasPrefix r [62] then some (r.drop 1) else none
def betweenX : Nat → List UInt8 → R (List UInt8)
  | 0, _ => .no
  | f + 1, l =>
    if Lib.hasPrefix (dropB l) [60, 33, 45, 45] then
      match commentX ((dropB l).drop 4) with
      | none => .bad 3
      | some r => betweenX f r
    else .ok (dropB l)
def endX (n : Wn) (l : List UInt8) : Option (List UInt8) :=
  if (writtenX l).1.2 = true ∧ (writtenX l).1.1 = n ∧ Lib.hasPrefix (dropB (writtenX l).2) [62] = true then some ((dropB (writtenX l).2).drop 1) else none

/-- What was read of an element's content. -/
structure Ct where
  text : List UInt8
  solid : Bool
  kids : List PE
def allBlank (l : List UInt8) : Bool := Lib.trimS l [32, 9, 10, 13] == []
def partX (el : List UInt8 → R (PE × List UInt8)) (c : Ct) (l : List UInt8) : R (Ct × List UInt8) :=
  if Lib.hasPrefix l [60, 33, 45, 45] then
    match commentX (l.drop 4) with
    | none => .bad 3
    | some r => .ok (c, r)
  else if Lib.hasPrefix l [60, 33, 91, 67, 68, 65, 84, 65, 91] then
    match Lib.cut (l.drop 9) [93, 93, 62] with
    | (_, _, false) => .bad 3
    | (t, r, true) => .ok (⟨c.text ++ t, c.solid || t != [], c.kids⟩, r)
  else if Lib.hasPrefix l [60] then
    (el l).bind fun x => if c.kids.length = 256 then .bad 2 else .ok (⟨c.text, c.solid, c.kids ++ [x.1]⟩, x.2)
  else if Lib.indexByte l 60 < 0 then .bad 3
  else (entX (l.take (Lib.indexByte l 60).toNat)).bind fun t => .ok (⟨c.text ++ t, c.solid || !allBlank (l.take (Lib.indexByte l 60).toNat), c.kids⟩, l.drop (Lib.indexByte l 60).toNat)
def partsX (el : List UInt8 → R (PE × List UInt8)) : Nat → Ct → List UInt8 → R (Ct × List UInt8)
  | 0, _, _ => .no
  | f + 1, c, l =>
    if Lib.hasPrefix l [60, 47] then .ok (c, l.drop 2)
    else (partX el c l).bind fun x => partsX el f x.1 x.2
def contentX (el : List UInt8 → R (PE × List UInt8)) (n : Wn) (l : List UInt8) : R ((List UInt8 × List PE) × List UInt8) :=
  (partsX el (l.length + 1) ⟨[], false, []⟩ l).bind fun x =>
    match endX n x.2 with
    | none => .bad 3
    | some r2 => if x.1.solid = false then .ok (([], x.1.kids), r2) else if 0 < x.1.kids.length then .bad 3 else .ok ((x.1.text, []), r2)
/-- f: how much deeper elements may stand. -/
def elemX : Nat → Say → List UInt8 → R (PE × List UInt8)
  | 0, _, _ => .bad 10
  | f + 1, said, l =>
    (tagX l).bind fun x => (beginX said x.1).bind fun y =>
      if x.1.empty then .ok (y.2, x.2)
      else (contentX (elemX f y.1) x.1.name x.2).bind fun z => .ok (y.2.put z.1.1 z.1.2, z.2)
def docX (l : List UInt8) : R PE :=
  if Lib.hasPrefix l [60, 63, 120, 109, 108, 32] then .no
  else (betweenX (l.length + 1) l).bind fun r => (elemX 16 [] r).bind fun x => (betweenX (x.2.length + 1) x.2).bind fun r3 => if r3 = [] then .ok x.1 else .bad 3
def parseX (l : List UInt8) : R PE :=
  if 16384 < l.length then .bad 2
  else if l.all signC = false then .bad 3
  else docX l
end Go.Proofs.Ytmamcnhofgfolaa
namespace Go.Proofs.Ytmamcnhofgfolaa
open Go

/-- Is it an order in which each quiet operation is free, and each other one alone? -/
def planOk (md : Region.Mode) (ops : Array Oper) : List (Nat × Bool) → Array Bool → Bool
  | [], listed => (Region.ready md ops listed).isEmpty
  | (i, q) :: rest, listed => (if q then Region.free md ops listed i && (Region.ready md ops listed).contains i else Region.ready md ops listed == [i]) && planOk md ops rest (listed.setIfInBounds i true)

/-- The walk in that order. -/
def wpPlan (P : Program) (ops : Array Oper) (Q : Exit → Act → World → Prop) (S : World → Prop) : List (Oper × Bool) → Act → World → Prop
  | [], a, w => Q .normal a w
  | (o, q) :: rest, a, w =>
    (Region.wanted o (yielded ops a.tmps) = false ∧ wpPlan P ops Q S rest (a.put o.dst undef) w) ∨
    (Region.wanted o (yielded ops a.tmps) = true ∧
      ((q = true ∧ ∃ v, (∀ w', S w' → (execOp a.eval o).run P w' = .ok (.value v) w') ∧ wpPlan P ops Q S rest (a.put o.dst v) w) ∨
       (q = false ∧ o.wp P a w (fun a' w' => S w' ∧ wpPlan P ops Q S rest a' w') Q)))

section
variable {P : Program} {ops : Array Oper} {Q : Exit → Act → World → Prop} {S : World → Prop} {o : Oper} {q : Bool} {rest : List (Oper × Bool)} {a : Act} {w : World}
theorem plan_skip (hw : Region.wanted o (yielded ops a.tmps) = false) (h : wpPlan P ops Q S rest (a.put o.dst undef) w) : wpPlan P ops Q S ((o, q) :: rest) a w := .inl ⟨hw, h⟩
theorem plan_quiet {v : Value} (hw : Region.wanted o (yielded ops a.tmps) = true) (hv : ∀ w', S w' → (execOp a.eval o).run P w' = .ok (.value v) w') (h : wpPlan P ops Q S rest (a.put o.dst v) w) :
    wpPlan P ops Q S ((o, true) :: rest) a w := .inr ⟨hw, .inl ⟨rfl, v, hv, h⟩⟩
theorem plan_eff (hw : Region.wanted o (yielded ops a.tmps) = true) (h : ∀ K : Act → World → Prop, (∀ a' w', S w' → wpPlan P ops Q S rest a' w' → K a' w') → o.wp P a w K Q) :
    wpPlan P ops Q S ((o, false) :: rest) a w := .inr ⟨hw, .inr ⟨rfl, h _ (fun _ _ h1 h2 => ⟨h1, h2⟩)⟩⟩
theorem plan_nil (h : Q .normal a w) : wpPlan P ops Q S [] a w := h

theorem plan_sound (md : Region.Mode) (hs : Region.noSelect ops = true) (hQ : ∀ c d v a w, Q (.panic c) (Act.put a d v) w → Q (.panic c) a w) :
    ∀ (plan : List (Nat × Bool)) (fuel : Nat) (listed : Array Bool) (a : Act) (w : World), plan.length ≤ fuel → planOk md ops plan listed = true → S w →
      wpPlan P ops Q S (plan.map fun x => ((ops[x.1]?).getD default, x.2)) a w → wpAnyH P md ops Q S fuel listed a w := by
  intro plan
  induction plan with
  | nil =>
    intro fuel listed a w _ hp _ h
    exact wpAnyH_done (by simpa [planOk] using hp) h fuel
  | cons x rest ih =>
    obtain ⟨i, q⟩ := x
    intro fuel listed a w hf hp hS h
    cases fuel with
    | zero => simp at hf
    | succ fuel =>
      simp only [List.length_cons, Nat.add_le_add_iff_right] at hf
      simp only [planOk, Bool.and_eq_true] at hp
      obtain ⟨hp1, hp2⟩ := hp
      simp only [List.map_cons, wpPlan] at h
      cases q with
      | true =>
        simp only [if_true, Bool.and_eq_true] at hp1
        have hi : ∃ o, ops[i]? = some o := by
          cases hoi : ops[i]? with
          | none => have := hp1.1; unfold Region.free at this; rw [hoi] at this; simp at this
          | some o => exact ⟨o, rfl⟩
        obtain ⟨o, ho⟩ := hi
        rw [ho] at h
        simp only [Option.getD_some] at h
        rcases h with ⟨hw, h⟩ | ⟨hw, ⟨_, v, hv, h⟩ | ⟨hq, _⟩⟩
        · exact wpAnyH_take ho hs hp1.1 hp1.2 (fun c a w h => hQ c _ _ a w h) (.inr ⟨hw, rfl⟩) hS (ih fuel _ _ _ hf hp2 hS h)
        · exact wpAnyH_take ho hs hp1.1 hp1.2 (fun c a w h => hQ c _ _ a w h) (.inl ⟨hw, hv⟩) hS (ih fuel _ _ _ hf hp2 hS h)
        · cases hq
      | false =>
        simp only [Bool.false_eq_true, if_false] at hp1
        have hr : Region.ready md ops listed = [i] := by simpa using hp1
        refine wpAnyH_all hr (by simp) (fun j hj => ?_)
        obtain rfl : j = i := by simpa using hj
        unfold wpOp
        have hi : ∃ o, ops[j]? = some o := by
          have hm : j ∈ Region.ready md ops listed := by rw [hr]; simp
          obtain ⟨_, oj, hoj, _⟩ := mem_ready.1 hm
          exact ⟨oj, hoj⟩
        obtain ⟨o, ho⟩ := hi
        rw [ho] at h ⊢
        simp only [Option.getD_some] at h
        simp only []
        rcases h with ⟨hw, h⟩ | ⟨hw, ⟨hq, _⟩ | ⟨_, h⟩⟩
        · rw [if_neg (by rw [hw]; simp)]
          exact ⟨hS, ih fuel _ _ _ hf hp2 hS h⟩
        · cases hq
        · rw [if_pos hw]
          exact .inl (Oper.wp_mono (fun a' w' ⟨h1, h2⟩ => ⟨h1, ih fuel _ _ _ hf hp2 h1 h2⟩) h)

/-- The region, by a plan. -/
theorem wp_region_plan {id : Nat} (S : World → Prop) (plan : List (Nat × Bool)) (hm : P.follows .mixedOrders = true) (hs : Region.noSelect ops = true)
    (hp : planOk .any ops plan (Array.replicate ops.size false) = true) (hn : decide (plan.length ≤ ops.size) = true) (hQ : ∀ c d v a w, Q (.panic c) (Act.put a d v) w → Q (.panic c) a w) (hS : S w.drew)
    (h : wpPlan P ops Q S (plan.map fun x => ((ops[x.1]?).getD default, x.2)) a w.drew) : (Code.region id ops true).wp P Q a w :=
  wp_region_held hm (plan_sound .any hs hQ plan _ _ _ _ (of_decide_eq_true hn) hp hS h)
end
end Go.Proofs.Ytmamcnhofgfolaa
namespace Go.Proofs.Ytmamcnhofgfolaa
open Go

theorem wpAnyH_mono {P : Program} {md : Region.Mode} {ops : Array Oper} {Q : Exit → Act → World → Prop} {S S' : World → Prop} (hSS : ∀ w, S' w → S w) :
    ∀ (fuel : Nat) (listed : Array Bool) (a : Act) (w : World), wpAnyH P md ops Q S' fuel listed a w → wpAnyH P md ops Q S fuel listed a w
  | 0, _, _, _, h => h
  | fuel + 1, _, _, _, h => ⟨h.1, fun i hi => wpOp_mono (fun a' w' h' => ⟨hSS _ h'.1, wpAnyH_mono hSS fuel _ a' w' h'.2⟩) (h.2 i hi)⟩

def wpPlanS (P : Program) (ops : Array Oper) (Q : Exit → Act → World → Prop) : List (Oper × Bool) → (World → Prop) → Act → World → Prop
  | [], _, a, w => Q .normal a w
  | (o, q) :: rest, S, a, w =>
    (Region.wanted o (yielded ops a.tmps) = false ∧ wpPlanS P ops Q rest S (a.put o.dst undef) w) ∨
    (Region.wanted o (yielded ops a.tmps) = true ∧
      ((q = true ∧ ∃ v, (∀ w', S w' → (execOp a.eval o).run P w' = .ok (.value v) w') ∧ wpPlanS P ops Q rest S (a.put o.dst v) w) ∨
       (q = false ∧ o.wp P a w (fun a' w' => ∃ S' : World → Prop, (∀ x, S' x → S x) ∧ S' w' ∧ wpPlanS P ops Q rest S' a' w') Q)))

section
variable {P : Program} {ops : Array Oper} {Q : Exit → Act → World → Prop} {S : World → Prop} {o : Oper} {q : Bool} {rest : List (Oper × Bool)} {a : Act} {w : World}
theorem planS_skip (hw : Region.wanted o (yielded ops a.tmps) = false) (h : wpPlanS P ops Q rest S (a.put o.dst undef) w) : wpPlanS P ops Q ((o, q) :: rest) S a w := .inl ⟨hw, h⟩
theorem planS_quiet {v : Value} (hw : Region.wanted o (yielded ops a.tmps) = true) (hv : ∀ w', S w' → (execOp a.eval o).run P w' = .ok (.value v) w') (h : wpPlanS P ops Q rest S (a.put o.dst v) w) :
    wpPlanS P ops Q ((o, true) :: rest) S a w := .inr ⟨hw, .inl ⟨rfl, v, hv, h⟩⟩
theorem planS_eff (hw : Region.wanted o (yielded ops a.tmps) = true) (h : ∀ K : Act → World → Prop, (∀ (S' : World → Prop) a' w', (∀ x, S' x → S x) → S' w' → wpPlanS P ops Q rest S' a' w' → K a' w') → o.wp P a w K Q) :
    wpPlanS P ops Q ((o, false) :: rest) S a w := .inr ⟨hw, .inr ⟨rfl, h _ (fun S' _ _ h0 h1 h2 => ⟨S', h0, h1, h2⟩)⟩⟩
theorem planS_nil (h : Q .normal a w) : wpPlanS P ops Q [] S a w := h

theorem planS_sound (md : Region.Mode) (hs : Region.noSelect ops = true) (hQ : ∀ c d v a w, Q (.panic c) (Act.put a d v) w → Q (.panic c) a w) :
    ∀ (plan : List (Nat × Bool)) (S : World → Prop) (fuel : Nat) (listed : Array Bool) (a : Act) (w : World), plan.length ≤ fuel → planOk md ops plan listed = true → S w →
      wpPlanS P ops Q (plan.map fun x => ((ops[x.1]?).getD default, x.2)) S a w → wpAnyH P md ops Q S fuel listed a w := by
  intro plan
  induction plan with
  | nil =>
    intro S fuel listed a w _ hp _ h
    exact wpAnyH_done (by simpa [planOk] using hp) h fuel
  | cons x rest ih =>
    obtain ⟨i, q⟩ := x
    intro S fuel listed a w hf hp hS h
    cases fuel with
    | zero => simp at hf
    | succ fuel =>
      simp only [List.length_cons, Nat.add_le_add_iff_right] at hf
      simp only [planOk, Bool.and_eq_true] at hp
      obtain ⟨hp1, hp2⟩ := hp
      simp only [List.map_cons, wpPlanS] at h
      cases q with
      | true =>
        simp only [if_true, Bool.and_eq_true] at hp1
        have hi : ∃ o, ops[i]? = some o := by
          cases hoi : ops[i]? with
          | none => have := hp1.1; unfold Region.free at this; rw [hoi] at this; simp at this
          | some o => exact ⟨o, rfl⟩
        obtain ⟨o, ho⟩ := hi
        rw [ho] at h
        simp only [Option.getD_some] at h
        rcases h with ⟨hw, h⟩ | ⟨hw, ⟨_, v, hv, h⟩ | ⟨hq, _⟩⟩
        · exact wpAnyH_take ho hs hp1.1 hp1.2 (fun c a w h => hQ c _ _ a w h) (.inr ⟨hw, rfl⟩) hS (ih S fuel _ _ _ hf hp2 hS h)
        · exact wpAnyH_take ho hs hp1.1 hp1.2 (fun c a w h => hQ c _ _ a w h) (.inl ⟨hw, hv⟩) hS (ih S fuel _ _ _ hf hp2 hS h)
        · cases hq
      | false =>
        simp only [Bool.false_eq_true, if_false] at hp1
        have hr : Region.ready md ops listed = [i] := by simpa using hp1
        refine wpAnyH_all hr (by simp) (fun j hj => ?_)
        obtain rfl : j = i := by simpa using hj
        unfold wpOp
        have hi : ∃ o, ops[j]? = some o := by
          have hm : j ∈ Region.ready md ops listed := by rw [hr]; simp
          obtain ⟨_, oj, hoj, _⟩ := mem_ready.1 hm
          exact ⟨oj, hoj⟩
        obtain ⟨o, ho⟩ := hi
        rw [ho] at h ⊢
        simp only [Option.getD_some] at h
        simp only []
        rcases h with ⟨hw, h⟩ | ⟨hw, ⟨hq, _⟩ | ⟨_, h⟩⟩
        · rw [if_neg (by rw [hw]; simp)]
          exact ⟨hS, ih S fuel _ _ _ hf hp2 hS h⟩
        · cases hq
        · rw [if_pos hw]
          exact .inl (Oper.wp_mono (fun a' w' ⟨S', h0, h1, h2⟩ => ⟨h0 _ h1, wpAnyH_mono h0 _ _ _ _ (ih S' fuel _ _ _ hf hp2 h1 h2)⟩) h)

/-- The region, by a plan. -/
theorem wp_region_planS {id : Nat} (S : World → Prop) (plan : List (Nat × Bool)) (hm : P.follows .mixedOrders = true) (hs : Region.noSelect ops = true)
    (hp : planOk .any ops plan (Array.replicate ops.size false) = true) (hn : decide (plan.length ≤ ops.size) = true) (hQ : ∀ c d v a w, Q (.panic c) (Act.put a d v) w → Q (.panic c) a w) (hS : S w.drew)
    (h : wpPlanS P ops Q (plan.map fun x => ((ops[x.1]?).getD default, x.2)) S a w.drew) : (Code.region id ops true).wp P Q a w :=
  wp_region_held hm (planS_sound .any hs hQ plan S _ _ _ _ (of_decide_eq_true hn) hp hS h)
end
end Go.Proofs.Ytmamcnhofgfolaa
namespace Go.Proofs.Ytmamcnhofgfolaa
open Go Go.RowKit
/-- Block g holds these cells. -/
def Blk (w : World) (g : Nat) (T : TypeId) (cs : List Value) : Prop := w.heap[g]? = some (.cells cs.toArray T (0, 0))
theorem Blk.lt {w : World} {g : Nat} {T : TypeId} {cs : List Value} (h : Blk w g T cs) : g < w.heap.size := blk_lt h
theorem Blk.keep {w w' : World} {g : Nat} {T : TypeId} {cs : List Value} (h : Blk w g T cs) {S : Nat → Prop} (hk : Kp S w w') (hs : ¬ S g) : Blk w' g T cs := blk_keep hk h hs
theorem Blk.kp0 {w w' : World} {g : Nat} {T : TypeId} {cs : List Value} (h : Blk w g T cs) (hk : Kp0 w w') : Blk w' g T cs := h.keep hk (fun h => h)
theorem Blk.range {w : World} {g : Nat} {T : TypeId} {cs : List Value} (h : Blk w g T cs) : w.rangeAt g 0 cs := by
  intro j v hv
  rw [Nat.zero_add, blk_cell h j]
  simpa using hv
theorem blk0 (w : World) (T : TypeId) (cs : List Value) : Blk (w.alloc (.cells cs.toArray T)) w.heap.size T cs := heap_alloc_new w _
/-- All of one cell each. -/
def Ones (cs : List Value) : Prop := ∀ v, v ∈ cs → v.oneCell' = true
theorem Ones.all {cs : List Value} (h : Ones cs) : cs.toArray.all (·.oneCell') = true := by
  rw [Array.all_eq_true_iff_forall_mem]
  intro v hv
  exact h v (by simpa using hv)
theorem set_blk {w : World} {g : Nat} {T : TypeId} {old cs : List Value} (h : Blk w g T old) : Blk (w.setRow g cs.toArray) g T cs ∧ Kp (fun b => b = g) w (w.setRow g cs.toArray) := by
  constructor
  · unfold Blk World.setRow
    simp only [Array.getElem?_modify, if_true]
    rw [show w.heap[g]? = _ from h]
    rfl
  · refine ⟨rfl, rfl, rfl, by simp [World.setRow], fun k _ hk => ?_⟩
    simp only [World.setRow, Array.getElem?_modify]
    rw [if_neg (fun e => hk e.symm)]
section
variable {P : Program} {ops : Array Oper} {rest : List Oper} {op : Oper} {a : Act} {w : World} {K : Act → World → Prop} {Q : Exit → Act → World → Prop}
theorem wp_store_blk (ty : TypeId) (x y : Operand) (ho : op.op = .store ty x y)
    (g : Nat) (T : TypeId) (old cs : List Value) (hx : a.eval x = .pointer (some ⟨g, 0, none⟩)) (hy : a.eval y = .agg cs.toArray) (hA : Blk w g T old)
    (hi : (P.info? ty).map (·.size) = some cs.length) (hl : old.length = cs.length) (h1 : Ones cs)
    (h : ∀ w', Blk w' g T cs → Kp (fun b => b = g) w w' → K (a.put op.dst undef) w') : op.wp P a w K Q := by
  have := run_storeVar_row (P := P) w g T ty old.toArray cs.toArray hA (by rw [List.size_toArray]; exact hi) (by simp [hl]) h1.all
  unfold Oper.wp execOp
  simp only [ho, hx, hy, Instr.storeAt, Instr.sureAddr, Sem.run_bind, Sem.run_pure, Result.andThen_ok, this]
  exact h _ (set_blk hA).1 (set_blk hA).2
theorem wl_store_blk (hgd : op.guard = none) (ty : TypeId) (x y : Operand) (ho : op.op = .store ty x y)
    (g : Nat) (T : TypeId) (old cs : List Value) (hx : a.eval x = .pointer (some ⟨g, 0, none⟩)) (hy : a.eval y = .agg cs.toArray) (hA : Blk w g T old)
    (hi : (P.info? ty).map (·.size) = some cs.length) (hl : old.length = cs.length) (h1 : Ones cs)
    (h : ∀ w', Blk w' g T cs → Kp (fun b => b = g) w w' → wpList P ops Q rest (a.put op.dst undef) w') : wpList P ops Q (op :: rest) a w :=
  wpList_plain hgd fun _ hK => wp_store_blk ty x y ho g T old cs hx hy hA hi hl h1 (fun w' h1 h2 => hK _ _ (h w' h1 h2))
theorem wl_load_blk (hgd : op.guard = none) (ty : TypeId) (x : Operand) (ho : op.op = .load ty x)
    (g : Nat) (T : TypeId) (cs : List Value) (hx : a.eval x = .pointer (some ⟨g, 0, none⟩)) (hA : Blk w g T cs) (d : TypeDesc)
    (hu : P.underlying ty = some d) (hd : d.isRow = true) (hi : (P.info? ty).map (·.size) = some cs.length)
    (h : wpList P ops Q rest (a.put op.dst (.agg cs.toArray)) w) : wpList P ops Q (op :: rest) a w :=
  wpList_load_mid hgd ty x ho g 0 hx cs d hA.range hu hd hi h
theorem run_load_blk (ty : TypeId) (x : Operand) (ho : op.op = .load ty x)
    (g : Nat) (T : TypeId) (cs : List Value) (hx : a.eval x = .pointer (some ⟨g, 0, none⟩)) (hA : Blk w g T cs) (d : TypeDesc)
    (hu : P.underlying ty = some d) (hd : d.isRow = true) (hi : (P.info? ty).map (·.size) = some cs.length) : (execOp a.eval op).run P w = .ok (.value (.agg cs.toArray)) w := by
  unfold execOp
  simp only [ho, hx, Instr.loadAt, Instr.sureAddr, Sem.run_bind, Sem.run_pure, Result.andThen_ok, run_loadVar_mid w g 0 ty cs d hA.range hu hd hi]
theorem len_of {T : TypeId} {m n : Nat} (h1 : (P.info? T).map (·.size) = some m) (h2 : (P.info? T).map (·.size) = some n) : m = n := by
  rw [h1] at h2
  exact Option.some.inj h2
end
end Go.Proofs.Ytmamcnhofgfolaa
namespace Go.Proofs.Ytmamcnhofgfolaa
open Go Go.RowKit
/-- A slice whose block is the call's own from B on; behind it there is room of its own. -/
def Ow (B : Nat) (e : TypeId) (w : World) (v : Value) (xs : List Value) : Prop :=
  (v = .slice none 0 0 ∧ xs = []) ∨ ∃ g o cap cur, v = .slice (some ⟨g, o, none⟩) xs.length cap ∧ B ≤ g ∧ w.heap[g]? = some (.cells cur e (0, 0)) ∧ xs.length ≤ cap ∧ cap ≤ maxLen ∧ o + cap ≤ cur.size ∧ (∀ i u, xs[i]? = some u → cur[o + i]? = some u)
section
variable {B : Nat} {e : TypeId} {w w' : World} {v : Value} {xs : List Value}
theorem Ow.nil (B : Nat) (e : TypeId) (w : World) : Ow B e w (.slice none 0 0) [] := .inl ⟨rfl, rfl⟩
theorem Ow.rd (h : Ow B e w v xs) : Rd w v xs := by
  rcases h with ⟨rfl, rfl⟩ | ⟨g, o, cap, cur, rfl, hb, hh, hn, hc, hs, ht⟩
  · exact Rd.nil w
  · refine ⟨some ⟨g, o, none⟩, cap, rfl, hn, hc, by simp, fun ad e' i u hu => ?_⟩
    cases e'
    rw [Addr.add_lit, cell_of_row w g (o + i) cur e (0, 0) hh]
    exact ht i u hu
theorem Ow.sl (h : Ow B e w v xs) : ∃ a n k, v = .slice a n k := by
  rcases h with ⟨rfl, rfl⟩ | ⟨g, o, cap, cur, rfl, _⟩
  · exact ⟨_, _, _, rfl⟩
  · exact ⟨_, _, _, rfl⟩
theorem Ow.keep (h : Ow B e w v xs) {S : Nat → Prop} (hk : Kp S w w') (hs : ∀ b, v.ownBlock = some b → B ≤ b → b < w.heap.size → ¬ S b) : Ow B e w' v xs := by
  rcases h with h0 | ⟨g, o, cap, cur, rfl, hb, hh, r⟩
  · exact .inl h0
  · have hl := (Array.getElem?_eq_some_iff.1 hh).1
    exact .inr ⟨g, o, cap, cur, rfl, hb, by rw [hk.block g hl (hs g rfl hb hl)]; exact hh, r⟩
theorem Ow.keep0 (h : Ow B e w v xs) (hk : Kp0 w w') : Ow B e w' v xs := h.keep hk (fun _ _ _ _ h => h)
theorem Ow.lt (h : Ow B e w v xs) : ∀ b, v.ownBlock = some b → B ≤ b ∧ b < w.heap.size := by
  rcases h with ⟨rfl, _⟩ | ⟨g, o, cap, cur, rfl, hb, hh, r⟩
  · intro b hb; cases hb
  · intro b he
    obtain rfl : g = b := Option.some.inj he
    exact ⟨hb, (Array.getElem?_eq_some_iff.1 hh).1⟩
theorem Ow.of_own (h : Own B e w v xs) : Ow B e w v xs := by
  rcases h.2 with ⟨rfl, h0⟩ | ⟨g, cap, cur, hv, hb, hg, hnc, hcm, hcs, ht⟩
  · exact .inl ⟨rfl, List.eq_nil_of_length_eq_zero h0⟩
  · refine .inr ⟨g, 0, cap, cur, hv, hb, hg, hnc, hcm, by omega, fun i u hu => ?_⟩
    have hi := (List.getElem?_eq_some_iff.1 hu).1
    rw [Nat.mul_one] at ht
    rw [← ht, List.getElem?_take_of_lt hi] at hu
    rw [Nat.zero_add]
    simpa using hu
theorem Ow.shapeB {l : List UInt8} (h : Ow B e w v (bys l)) : ∃ ao cap, v = .slice ao l.length cap ∧ l.length ≤ cap ∧ cap ≤ 9223372036854775807 ∧ (ao = none → cap = 0) := h.rd.shapeB
theorem Ow.posB {l : List UInt8} (h : Ow B e w v (bys l)) (hx : 0 < l.length) : ∃ b o cap, v = .slice (some ⟨b, o, none⟩) l.length cap ∧ l.length ≤ cap ∧ cap ≤ 9223372036854775807 ∧ ∀ i (hi : i < l.length), w.cell? ⟨b, o + i, none⟩ = some (.int .u8 ((l[i]'hi).toNat : Int)) := h.rd.posB hx
/-- Cut off in front. -/
theorem Ow.cut {ao : Option Addr} {n cap : Nat} (h : Ow B e w (.slice ao n cap) xs) (k : Nat) (hk : k ≤ n) : Ow B e w (sliced ao k n cap 1) (xs.drop k) := by
  rcases h with ⟨hv, rfl⟩ | ⟨g, o, cap', cur, hv, hb, hh, hn, hc, hs, ht⟩
  · simp only [Value.slice.injEq] at hv
    obtain ⟨rfl, rfl, rfl⟩ := hv
    obtain rfl : k = 0 := by omega
    exact .inl ⟨by simp [sliced], by simp⟩
  · simp only [Value.slice.injEq] at hv
    obtain ⟨rfl, rfl, rfl⟩ := hv
    unfold sliced
    by_cases hck : cap = k
    · obtain rfl : k = xs.length := by omega
      refine .inr ⟨g, o, 0, cur, ?_, hb, hh, by simp, by omega, by omega, by simp⟩
      subst hck
      simp
    · refine .inr ⟨g, o + k, cap - k, cur, ?_, hb, hh, by simp; omega, by omega, by omega, fun i u hu => ?_⟩
      · rw [if_neg hck]
        simp [Addr.add_lit]
      · rw [List.getElem?_drop] at hu
        have := ht (k + i) u hu
        rwa [← Nat.add_assoc] at this
theorem Ow.cut_block {ao : Option Addr} {n cap k : Nat} : ∀ b, (sliced ao k n cap 1).ownBlock = some b → (Value.slice ao n cap).ownBlock = some b := by
  intro b hb
  unfold sliced at hb
  cases ao with
  | none => simp [Value.ownBlock] at hb
  | some a =>
    by_cases hc : cap = k
    · rw [if_pos hc] at hb; exact hb
    · rw [if_neg hc] at hb
      simp only [Option.map_some, Value.ownBlock, add_block] at hb
      exact hb
end
theorem setCells_keep (b : Nat) : ∀ (vs : List Value) (o : Nat) (w : World), Kp (fun i => i = b) w (w.setCells b o vs) := by
  intro vs
  induction vs with
  | nil => exact fun o w => Kp.refl _ _
  | cons v vs ih => exact fun o w => ((Kp.refl (fun i => i = b) w).setCell (p := ⟨b, o, none⟩) (fun _ => rfl) v).tr (ih (o + 1) _)
theorem setCells_blk (b : Nat) : ∀ (vs : List Value) (o : Nat) (w : World) (cs : Array Value) (T : TypeId) (fz : Nat × Nat), w.heap[b]? = some (.cells cs T fz) →
    ∃ cs', (w.setCells b o vs).heap[b]? = some (.cells cs' T fz) ∧ cs'.size = cs.size ∧ (∀ i, i < o → cs'[i]? = cs[i]?) ∧ (∀ i u, o + vs.length ≤ cs.size → vs[i]? = some u → cs'[o + i]? = some u) := by
  intro vs
  induction vs with
  | nil => exact fun o w cs T fz h => ⟨cs, h, rfl, fun _ _ => rfl, by simp⟩
  | cons v vs ih =>
    intro o w cs T fz h
    obtain ⟨cs', h1, h2, h3, h4⟩ := ih (o + 1) _ _ T fz (blk_set h o v)
    refine ⟨cs', h1, by rw [h2]; simp, fun i hi => ?_, fun i u hl hu => ?_⟩
    · rw [h3 i (by omega), Array.getElem?_setIfInBounds_ne (by omega)]
    · cases i with
      | zero =>
        simp at hu
        subst hu
        simp only [List.length_cons] at hl
        rw [Nat.add_zero, h3 o (by omega), Array.getElem?_setIfInBounds_self_of_lt (by omega)]
      | succ i =>
        have := h4 i u (by simp only [List.length_cons] at hl; simp; omega) (by simpa using hu)
        rw [← this]
        congr 1
        omega
section
variable {P : Program} {w : World} {ops : Array Oper} {rest : List Oper} {o : Oper} {a : Act} {Q : Exit → Act → World → Prop}
/-- APPEND to a slice of one's own, wherever it begins, as a run. -/
theorem run_append_ow (t ty e bytes : Nat) (z : Value) (ht : P.underlying t = some (.slice e)) (hi : (P.info? e).map (fun i => (i.zero, i.size, i.bytes)) = some (some z, 1, bytes)) (hz : z.cells.size = 1)
    {B : Nat} {v y : Value} {xs ys : List Value} (hown : Ow B e w v xs) (hrd : Rd w y ys) (h1 : ∀ u ∈ ys, u.oneCell' = true)
    (h63 : xs.length + ys.length ≤ maxLen) (hbytes : (xs.length + ys.length) * bytes ≤ 140737488355328) (hbase : B ≤ w.heap.size) :
    ∃ v' w', (Builtin.append_ #[t, t] ty #[v, y]).run P w = .ok v' w' ∧ Ow B e w' v' (xs ++ ys) ∧ Kp (fun b => v.ownBlock = some b) w w' ∧ (∀ b, v'.ownBlock = some b → v.ownBlock = some b ∨ w.heap.size ≤ b) := by
  obtain ⟨i, hi, hz0, hz1, hz2⟩ := info_parts hi
  have he : (xs ++ ys).length = xs.length + ys.length := by simp
  have none0 : ∀ (ad : Addr) (cap : Nat), y = .slice (some ad) ys.length cap → (∀ i u, ys[i]? = some u → w.cell? (ad.add i) = some u) → v = .slice none 0 0 → xs = [] →
      ∃ v' w', (Builtin.append_ #[t, t] ty #[v, y]).run P w = .ok v' w' ∧ Ow B e w' v' (xs ++ ys) ∧ Kp (fun b => v.ownBlock = some b) w w' ∧ (∀ b, v'.ownBlock = some b → v.ownBlock = some b ∨ w.heap.size ≤ b) := by
    rintro ad cap rfl hc rfl rfl
    obtain ⟨v', w', hrun, r1, r2, _⟩ := run_append_own (P := P) w w.heap.size t ty e i z 1 bytes ht hi hz0 hz1 hz2 hz (by decide) _ 0 [] (World.ownsRow_nil w w.heap.size e 1) ad ys.length cap ys (by simp) hc h1 (by simpa using h63) (by simpa using hbytes) (Nat.le_refl _)
    have hO : Own w.heap.size e w' v' ([] ++ ys) := by unfold Own; rw [List.nil_append] at r1 ⊢; rw [Nat.zero_add] at r1; exact r1
    refine ⟨v', w', hrun, Ow.of_own (hO.base hbase), ⟨r2.os, r2.tape, r2.output, r2.size, fun k hk hn => r2.block k hk (by simp [Value.ownBlock])⟩, fun b hb => .inr (hO.lt b hb).1⟩
  obtain ⟨ao, cap, rfl, hc1, hc2, hn, hcells⟩ := hrd
  rcases hown with ⟨rfl, rfl⟩ | ⟨g, off, c2, cur, rfl, hbg, hg, hnc, hcm, hcs, hat⟩
  · cases ao with
    | none =>
      obtain rfl := hn rfl
      obtain rfl : ys = [] := List.eq_nil_of_length_eq_zero (by omega)
      have hrun := run_append_owned_none (P := P) (w := w) B t ty e i 1 ht hi (.slice none 0 0) 0 [] (World.ownsRow_nil w B e 1)
      exact ⟨_, _, hrun, Ow.nil _ _ _, Kp.refl _ _, fun b hb => .inl hb⟩
    | some ad => exact none0 ad cap rfl (hcells ad rfl) rfl rfl
  · have holds : ∀ j u, xs[j]? = some u → w.cell? ((⟨g, off, none⟩ : Addr).add j) = some u := fun j u hu => by
      rw [Addr.add_lit, cell_of_row w g (off + j) cur e (0, 0) hg]; exact hat j u hu
    have room : ∀ (ad : Option Addr), (xs.length + ys.length ≤ c2) → (Builtin.append_ #[t, t] ty #[.slice (some ⟨g, off, none⟩) xs.length c2, .slice ad ys.length cap]).run P w = .ok (.slice (some ⟨g, off, none⟩) (xs.length + ys.length) c2) (w.setCells g (off + xs.length) ys) →
        ∃ v' w', (Builtin.append_ #[t, t] ty #[.slice (some ⟨g, off, none⟩) xs.length c2, .slice ad ys.length cap]).run P w = .ok v' w' ∧ Ow B e w' v' (xs ++ ys) ∧ Kp (fun b => (Value.slice (some ⟨g, off, none⟩) xs.length c2).ownBlock = some b) w w' ∧ (∀ b, v'.ownBlock = some b → (Value.slice (some ⟨g, off, none⟩) xs.length c2).ownBlock = some b ∨ w.heap.size ≤ b) := by
      intro ad hroom hr
      obtain ⟨cs', q1, q2, q3, q4⟩ := setCells_blk g ys (off + xs.length) w cur e (0, 0) hg
      refine ⟨_, _, hr, .inr ⟨g, off, c2, cs', by rw [he], hbg, q1, by omega, hcm, by omega, fun j u hu => ?_⟩, (setCells_keep g ys _ w).mono (fun k _ hk => by subst hk; rfl), fun b hb => .inl hb⟩
      by_cases hj : j < xs.length
      · rw [List.getElem?_append_left hj] at hu
        rw [q3 _ (by omega)]
        exact hat j u hu
      · rw [List.getElem?_append_right (by omega)] at hu
        have hl : off + xs.length + ys.length ≤ cur.size := by omega
        have := q4 _ u hl hu
        rw [← this]
        congr 1
        omega
    cases ao with
    | none =>
      obtain rfl := hn rfl
      obtain rfl : ys = [] := List.eq_nil_of_length_eq_zero (by omega)
      refine room none (by simpa using hnc) ?_
      simp [Builtin.append_, run_underlying ht, sizeOf, typeInfo, hi, Builtin.lenOf, hnc, World.setCells, go_sem]
    | some ad =>
      by_cases hroom : xs.length + ys.length ≤ c2
      · refine room (some ad) hroom ?_
        have hr := run_append_room_cells (P := P) w t ty e i ht hi g off xs.length c2 ad ys.length cap ys (by rw [hz1, Nat.mul_one]) (hcells ad rfl) h1 hroom
          (fun j hj => by rw [hz1, Nat.mul_one, cell_of_row w g _ cur e (0, 0) hg, Array.getElem?_eq_getElem (by omega)]; rfl) (fun j _ => blk_frozen hg _)
        rw [hz1, Nat.mul_one] at hr
        exact hr
      · obtain ⟨v', w', hrun, r1, r2⟩ := run_append_arg_grows (P := P) w t ty e i z 1 bytes ht hi hz0 hz1 hz2 hz (by decide) ⟨g, off, none⟩ xs.length c2 xs (by simp) holds ad ys.length cap ys (by simp) (hcells ad rfl) (by omega) h63 hbytes
        have hO : Own w.heap.size e w' v' (xs ++ ys) := by unfold Own; rw [he]; exact r1
        exact ⟨v', w', hrun, Ow.of_own (hO.base hbase), ⟨r2.os, r2.tape, r2.output, r2.size, fun k hk hn => r2.block k hk (by simp)⟩, fun b hb => .inr (hO.lt b hb).1⟩
/-- APPEND to a slice of one's own, as a law for the walk. -/
theorem wp_append_ow (s x : Operand) (t : TypeId) (ho : o.op = .call { callee := .builtin .append, args := #[s, x], argTypes := #[t, t] })
    {B e bytes : Nat} {z : Value} (ht : P.underlying t = some (.slice e)) (hi : (P.info? e).map (fun i => (i.zero, i.size, i.bytes)) = some (some z, 1, bytes)) (hz : z.cells.size = 1)
    {v y : Value} {xs ys : List Value} (hs : a.eval s = v) (hx : a.eval x = y) (hown : Ow B e w v xs) (hrd : Rd w y ys) (h1 : ∀ u ∈ ys, u.oneCell' = true)
    (h63 : xs.length + ys.length ≤ maxLen) (hbytes : (xs.length + ys.length) * bytes ≤ 140737488355328) (hbase : B ≤ w.heap.size) {K : Act → World → Prop}
    (h : ∀ v' w', Ow B e w' v' (xs ++ ys) → Kp (fun b => v.ownBlock = some b) w w' → (∀ b, v'.ownBlock = some b → v.ownBlock = some b ∨ w.heap.size ≤ b) → K (a.put o.dst v') w') : o.wp P a w K Q := by
  obtain ⟨v', w', hrun, r1, r2, r3⟩ := run_append_ow (P := P) t o.type e bytes z ht hi hz hown hrd h1 h63 hbytes hbase
  unfold Oper.wp
  simp [execOp, ho, resolve, invoke, builtin, hs, hx, hrun, Result.andThen]
  exact h v' w' r1 r2 r3
theorem wl_append_ow (hgd : o.guard = none) (s x : Operand) (t : TypeId) (ho : o.op = .call { callee := .builtin .append, args := #[s, x], argTypes := #[t, t] })
    {B e bytes : Nat} {z : Value} (ht : P.underlying t = some (.slice e)) (hi : (P.info? e).map (fun i => (i.zero, i.size, i.bytes)) = some (some z, 1, bytes)) (hz : z.cells.size = 1)
    {v y : Value} {xs ys : List Value} (hs : a.eval s = v) (hx : a.eval x = y) (hown : Ow B e w v xs) (hrd : Rd w y ys) (h1 : ∀ u ∈ ys, u.oneCell' = true)
    (h63 : xs.length + ys.length ≤ maxLen) (hbytes : (xs.length + ys.length) * bytes ≤ 140737488355328) (hbase : B ≤ w.heap.size)
    (h : ∀ v' w', Ow B e w' v' (xs ++ ys) → Kp (fun b => v.ownBlock = some b) w w' → (∀ b, v'.ownBlock = some b → v.ownBlock = some b ∨ w.heap.size ≤ b) → wpList P ops Q rest (a.put o.dst v') w') : wpList P ops Q (o :: rest) a w :=
  wpList_plain hgd fun _ hK => wp_append_ow s x t ho ht hi hz hs hx hown hrd h1 h63 hbytes hbase (fun v' w' q1 q2 q3 => hK _ _ (h v' w' q1 q2 q3))
end
end Go.Proofs.Ytmamcnhofgfolaa
namespace Go.Proofs.Ytmamcnhofgfolaa
open Go
inductive PT where
  | done
  | quiet (i : Nat) (t : PT)
  | eff (i : Nat) (t : PT)
  | two (i : Nat) (t : PT) (j : Nat) (u : PT)
def PT.len : PT → Nat
  | .done => 0
  | .quiet _ t => t.len + 1
  | .eff _ t => t.len + 1
  | .two _ t _ u => Nat.max t.len u.len + 1
def PT.ok (md : Region.Mode) (ops : Array Oper) : PT → Array Bool → Bool
  | .done, l => (Region.ready md ops l).isEmpty
  | .quiet i t, l => Region.free md ops l i && (Region.ready md ops l).contains i && t.ok md ops (l.setIfInBounds i true)
  | .eff i t, l => Region.ready md ops l == [i] && t.ok md ops (l.setIfInBounds i true)
  | .two i t j u, l => Region.ready md ops l == [i, j] && t.ok md ops (l.setIfInBounds i true) && u.ok md ops (l.setIfInBounds j true)
def PT.wp (P : Program) (ops : Array Oper) (Q : Exit → Act → World → Prop) : PT → (World → Prop) → Act → World → Prop
  | .done, _, a, w => Q .normal a w
  | .quiet i t, S, a, w => ∃ o, ops[i]? = some o ∧ Region.wanted o (yielded ops a.tmps) = true ∧ ∃ v, (∀ w', S w' → (execOp a.eval o).run P w' = .ok (.value v) w') ∧ t.wp P ops Q S (a.put o.dst v) w
  | .eff i t, S, a, w => ∃ o, ops[i]? = some o ∧ Region.wanted o (yielded ops a.tmps) = true ∧ o.wp P a w (fun a' w' => ∃ S' : World → Prop, (∀ x, S' x → S x) ∧ S' w' ∧ t.wp P ops Q S' a' w') Q
  | .two i t j u, S, a, w => (∃ o, ops[i]? = some o ∧ Region.wanted o (yielded ops a.tmps) = true ∧ o.wp P a w (fun a' w' => ∃ S' : World → Prop, (∀ x, S' x → S x) ∧ S' w' ∧ t.wp P ops Q S' a' w') Q) ∧
    (∃ o, ops[j]? = some o ∧ Region.wanted o (yielded ops a.tmps) = true ∧ o.wp P a w (fun a' w' => ∃ S' : World → Prop, (∀ x, S' x → S x) ∧ S' w' ∧ u.wp P ops Q S' a' w') Q)
section
variable {P : Program} {ops : Array Oper} {Q : Exit → Act → World → Prop} {S : World → Prop} {o : Oper} {a : Act} {w : World} {i : Nat} {t : PT}
theorem pt_quiet {v : Value} (ho : ops[i]? = some o) (hw : Region.wanted o (yielded ops a.tmps) = true) (hv : ∀ w', S w' → (execOp a.eval o).run P w' = .ok (.value v) w') {k : Tmp} (hk : o.dst = some k) (h : t.wp P ops Q S { a with tmps := a.tmps.setIfInBounds k v } w) : (PT.quiet i t).wp P ops Q S a w :=
  ⟨o, ho, hw, v, hv, by rw [hk]; exact h⟩
theorem pt_one (ho : ops[i]? = some o) (hw : Region.wanted o (yielded ops a.tmps) = true) (h : ∀ K : Act → World → Prop, (∀ (S' : World → Prop) a' w', (∀ x, S' x → S x) → S' w' → t.wp P ops Q S' a' w' → K a' w') → o.wp P a w K Q) :
    ∃ o, ops[i]? = some o ∧ Region.wanted o (yielded ops a.tmps) = true ∧ o.wp P a w (fun a' w' => ∃ S' : World → Prop, (∀ x, S' x → S x) ∧ S' w' ∧ t.wp P ops Q S' a' w') Q :=
  ⟨o, ho, hw, h _ (fun S' _ _ h0 h1 h2 => ⟨S', h0, h1, h2⟩)⟩
theorem pt_eff (ho : ops[i]? = some o) (hw : Region.wanted o (yielded ops a.tmps) = true) (h : ∀ K : Act → World → Prop, (∀ (S' : World → Prop) a' w', (∀ x, S' x → S x) → S' w' → t.wp P ops Q S' a' w' → K a' w') → o.wp P a w K Q) : (PT.eff i t).wp P ops Q S a w :=
  pt_one ho hw h
theorem pt_done (h : Q .normal a w) : PT.done.wp P ops Q S a w := h
theorem pt_sound (md : Region.Mode) (hs : Region.noSelect ops = true) (hQ : ∀ c d v a w, Q (.panic c) (Act.put a d v) w → Q (.panic c) a w) :
    ∀ (t : PT) (S : World → Prop) (fuel : Nat) (listed : Array Bool) (a : Act) (w : World), t.len ≤ fuel → t.ok md ops listed = true → S w → t.wp P ops Q S a w → wpAnyH P md ops Q S fuel listed a w := by
  have step : ∀ (i : Nat) (t : PT) (S : World → Prop) (fuel : Nat) (listed : Array Bool) (a : Act) (w : World),
      (∀ S' a w, S' w → t.wp P ops Q S' a w → wpAnyH P md ops Q S' fuel (listed.setIfInBounds i true) a w) →
      (∃ o, ops[i]? = some o ∧ Region.wanted o (yielded ops a.tmps) = true ∧ o.wp P a w (fun a' w' => ∃ S' : World → Prop, (∀ x, S' x → S x) ∧ S' w' ∧ t.wp P ops Q S' a' w') Q) →
      wpOp P ops Q i (fun a' w' => S w' ∧ wpAnyH P md ops Q S fuel (listed.setIfInBounds i true) a' w') a w := by
    intro i t S fuel listed a w ih ⟨o, ho, hw, h⟩
    unfold wpOp
    rw [ho]
    simp only []
    rw [if_pos hw]
    exact .inl (Oper.wp_mono (fun a' w' ⟨S', h0, h1, h2⟩ => ⟨h0 _ h1, wpAnyH_mono h0 _ _ _ _ (ih S' a' w' h1 h2)⟩) h)
  intro t
  induction t with
  | done =>
    intro S fuel listed a w _ hp _ h
    exact wpAnyH_done (by simpa [PT.ok] using hp) h fuel
  | quiet i t ih =>
    intro S fuel listed a w hf hp hS h
    cases fuel with
    | zero => simp [PT.len] at hf
    | succ fuel =>
      simp only [PT.len, Nat.add_le_add_iff_right] at hf
      simp only [PT.ok, Bool.and_eq_true] at hp
      obtain ⟨o, ho, hw, v, hv, h⟩ := h
      exact wpAnyH_take ho hs hp.1.1 hp.1.2 (fun c a w h => hQ c _ _ a w h) (.inl ⟨hw, hv⟩) hS (ih S fuel _ _ _ hf hp.2 hS h)
  | eff i t ih =>
    intro S fuel listed a w hf hp hS h
    cases fuel with
    | zero => simp [PT.len] at hf
    | succ fuel =>
      simp only [PT.len, Nat.add_le_add_iff_right] at hf
      simp only [PT.ok, Bool.and_eq_true] at hp
      have hr : Region.ready md ops listed = [i] := by simpa using hp.1
      refine wpAnyH_all hr (by simp) (fun j hj => ?_)
      obtain rfl : j = i := by simpa using hj
      exact step j t S fuel listed a w (fun S' a w hS' h' => ih S' fuel _ a w hf hp.2 hS' h') h
  | two i t j u iht ihu =>
    intro S fuel listed a w hf hp hS h
    cases fuel with
    | zero => simp [PT.len] at hf
    | succ fuel =>
      simp only [PT.len, Nat.add_le_add_iff_right] at hf
      have hf1 : t.len ≤ fuel := Nat.le_trans (Nat.le_max_left _ _) hf
      have hf2 : u.len ≤ fuel := Nat.le_trans (Nat.le_max_right _ _) hf
      simp only [PT.ok, Bool.and_eq_true] at hp
      have hr : Region.ready md ops listed = [i, j] := by simpa using hp.1.1
      refine wpAnyH_all hr (by simp) (fun k hk => ?_)
      rw [List.mem_cons, List.mem_singleton] at hk
      rcases hk with rfl | rfl
      · exact step k t S fuel listed a w (fun S' a w hS' h' => iht S' fuel _ a w hf1 hp.1.2 hS' h') h.1
      · exact step k u S fuel listed a w (fun S' a w hS' h' => ihu S' fuel _ a w hf2 hp.2 hS' h') h.2
/-- The region, by a tree. -/
theorem wp_region_tree {id : Nat} (S : World → Prop) (t : PT) (hm : P.follows .mixedOrders = true) (hs : Region.noSelect ops = true)
    (hp : t.ok .any ops (Array.replicate ops.size false) = true) (hn : decide (t.len ≤ ops.size) = true) (hQ : ∀ c d v a w, Q (.panic c) (Act.put a d v) w → Q (.panic c) a w) (hS : S w.drew)
    (h : t.wp P ops Q S a w.drew) : (Code.region id ops true).wp P Q a w :=
  wp_region_held hm (pt_sound .any hs hQ t S _ _ _ _ (of_decide_eq_true hn) hp hS h)
end
end Go.Proofs.Ytmamcnhofgfolaa
namespace Go.Proofs.Ytmamcnhofgfolaa
open Go
section
variable {P : Program} {ops : Array Oper} {Q : Exit → Act → World → Prop} {md : Region.Mode}
/-- As long as none of B has come up, S holds. -/
def heldTill (B : List Nat) (S : World → Prop) (l : Array Bool) (w : World) : Prop := (∀ b, b ∈ B → l.getD b true = false) → S w
def wpAnyG (P : Program) (md : Region.Mode) (ops : Array Oper) (Q : Exit → Act → World → Prop) (B : List Nat) (S : World → Prop) : Nat → Array Bool → Act → World → Prop
  | 0, listed, a, w => Region.ready md ops listed = [] ∧ Q .normal a w
  | fuel + 1, listed, a, w =>
    (Region.ready md ops listed = [] → Q .normal a w) ∧
    ∀ i ∈ Region.ready md ops listed, wpOp P ops Q i (fun a' w' => heldTill B S (listed.setIfInBounds i true) w' ∧ wpAnyG P md ops Q B S fuel (listed.setIfInBounds i true) a' w') a w
theorem wpAny_of_G {B : List Nat} {S : World → Prop} : ∀ (fuel : Nat) (listed : Array Bool) (a : Act) (w : World), wpAnyG P md ops Q B S fuel listed a w → wpAny P md ops Q fuel listed a w
  | 0, _, _, _, h => h
  | fuel + 1, _, _, _, h => ⟨h.1, fun i hi => wpOp_mono (fun a' w' h' => wpAny_of_G fuel _ a' w' h'.2) (h.2 i hi)⟩
theorem wpAnyG_mono {B : List Nat} {S S' : World → Prop} (hSS : ∀ w, S' w → S w) :
    ∀ (fuel : Nat) (listed : Array Bool) (a : Act) (w : World), wpAnyG P md ops Q B S' fuel listed a w → wpAnyG P md ops Q B S fuel listed a w
  | 0, _, _, _, h => h
  | fuel + 1, _, _, _, h => ⟨h.1, fun i hi => wpOp_mono (fun a' w' h' => ⟨fun hb => hSS _ (h'.1 hb), wpAnyG_mono hSS fuel _ a' w' h'.2⟩) (h.2 i hi)⟩
theorem set_true {l : Array Bool} {b i : Nat} (h : l.getD b true = true) : (l.setIfInBounds i true).getD b true = true := by
  by_cases hib : i = b
  · subst hib
    by_cases hl : i < l.size
    · simp [hl]
    · simp [hl]
  · rw [getD_set_ne true hib]
    exact h
theorem wpAnyG_drop {B : List Nat} {S : World → Prop} {b : Nat} (hb : b ∈ B) : ∀ (fuel : Nat) (listed : Array Bool) (a : Act) (w : World), listed.getD b true = true → wpAnyG P md ops Q [] (fun _ => True) fuel listed a w → wpAnyG P md ops Q B S fuel listed a w
  | 0, _, _, _, _, h => h
  | fuel + 1, _, _, _, hl, h => ⟨h.1, fun i hi => wpOp_mono (fun a' w' h' => ⟨(fun hn => (by have := hn b hb; rw [set_true hl] at this; cases this)), wpAnyG_drop hb fuel _ a' w' (set_true hl) h'.2⟩) (h.2 i hi)⟩
/-- Does b wait for i, at once? -/
def waits1 (md : Region.Mode) (ops : Array Oper) (b i : Nat) : Bool := match ops[b]? with
  | some o => o.after.any (fun e => Region.binds md e && Nat.beq e.on i)
  | none => false
/-- Does b wait for i, at once or by one between? -/
def waits (md : Region.Mode) (ops : Array Oper) (b i : Nat) : Bool := waits1 md ops b i || (match ops[b]? with
  | some o => o.after.any (fun e => Region.binds md e && waits1 md ops e.on i)
  | none => false)
/-- Whatever has come up, what it waits for has come up. -/
def Closed (md : Region.Mode) (ops : Array Oper) (l : Array Bool) : Prop := ∀ j o, ops[j]? = some o → l.getD j false = true → ∀ e ∈ o.after, Region.binds md e = true → l.getD e.on false = true
theorem getD_set_true {l : Array Bool} {k i : Nat} (h : l.getD k false = true) : (l.setIfInBounds i true).getD k false = true := by
  by_cases hik : i = k
  · subst hik
    by_cases hl : i < l.size
    · simp [hl]
    · simp [hl] at h
  · rw [getD_set_ne false hik]
    exact h
theorem Closed.set {l : Array Bool} (h : Closed md ops l) {i : Nat} (hi : i ∈ Region.ready md ops l) : Closed md ops (l.setIfInBounds i true) := by
  intro j o hj hlj e he hb
  by_cases hij : i = j
  · subst hij
    obtain ⟨_, oi, hoi, hall⟩ := mem_ready.1 hi
    rw [hj] at hoi
    cases hoi
    have := hall e he hb
    exact getD_set_true (by simpa using this)
  · rw [getD_set_ne false hij] at hlj
    exact getD_set_true (h j o hj hlj e he hb)
theorem listed_no {i : Nat} {listed : Array Bool} (hi : listed.getD i true = false) (h : listed.getD i false = true) : False := by
  rcases Nat.lt_or_ge i listed.size with h' | h'
  · simp [h'] at hi h
    rw [hi] at h
    cases h
  · simp [Array.getElem?_eq_none h'] at hi
theorem waits_not {b i : Nat} {listed : Array Bool} (hc : Closed md ops listed) (hw : waits md ops b i = true) (hi : listed.getD i true = false) : ¬ b ∈ Region.ready md ops listed := by
  intro hb
  obtain ⟨_, ob, hob, hall⟩ := mem_ready.1 hb
  unfold waits at hw
  rw [hob, Bool.or_eq_true] at hw
  rcases hw with hw | hw
  · unfold waits1 at hw
    rw [hob] at hw
    simp only [Array.any_eq_true', Bool.and_eq_true] at hw
    obtain ⟨e, he, hbind, hon⟩ := hw
    have := hall e he hbind
    rw [Nat.eq_of_beq_eq_true hon] at this
    exact listed_no hi (by simpa using this)
  · simp only [Array.any_eq_true', Bool.and_eq_true] at hw
    obtain ⟨e, he, hbind, hon⟩ := hw
    have h1 := hall e he hbind
    unfold waits1 at hon
    cases hm : ops[e.on]? with
    | none => rw [hm] at hon; cases hon
    | some om =>
      rw [hm] at hon
      simp only [Array.any_eq_true', Bool.and_eq_true] at hon
      obtain ⟨e2, he2, hb2, hon2⟩ := hon
      have h2 := hc e.on om hm (by simpa using h1) e2 he2 hb2
      rw [Nat.eq_of_beq_eq_true hon2] at h2
      exact listed_no hi h2
/-- Whoever could still come ahead of i is apart from it. -/
def Lone (md : Region.Mode) (ops : Array Oper) (i : Nat) (oi : Oper) (l : Array Bool) : Prop := ∀ j oj, ops[j]? = some oj → j ≠ i → l.getD j true = false → (∀ e ∈ oj.after, Region.binds md e = true → e.on ≠ i) → oi.apart ops oj = true
theorem unset {l : Array Bool} {j k : Nat} (h : (l.setIfInBounds j true).getD k true = false) : l.getD k true = false := by
  cases hk : l.getD k true
  · rfl
  · rw [set_true hk] at h
    exact h
theorem Lone.set {i j : Nat} {oi : Oper} {l : Array Bool} (h : Lone md ops i oi l) : Lone md ops i oi (l.setIfInBounds j true) := fun k ok hk hki hun hno => h k ok hk hki (unset hun) hno
theorem none_waits {i j : Nat} {oj : Oper} {l : Array Bool} (hi : l.getD i true = false) (hj : j ∈ Region.ready md ops l) (hoj : ops[j]? = some oj) : ∀ e ∈ oj.after, Region.binds md e = true → e.on ≠ i := by
  intro e he hb heq
  obtain ⟨_, o, ho, hall⟩ := mem_ready.1 hj
  rw [hoj] at ho
  cases ho
  exact listed_no hi (heq ▸ hall e he hb)
/-- What yields its value as long as S holds may be taken first, if all of B wait for it. -/
theorem wpAnyG_first {B : List Nat} {S : World → Prop} {i : Nat} {oi : Oper} {v : Value} (hi : ops[i]? = some oi) (hsel : ∀ (j : Nat) (o : Oper) cs b, ops[j]? = some o → o.op ≠ .select cs b)
    (hQ : ∀ c a w, Q (.panic c) (a.put oi.dst v) w → Q (.panic c) a w) (hwait : ∀ b, b ∈ B → waits md ops b i = true ∧ b ≠ i) (fuel : Nat) :
    ∀ (l : Array Bool) (a : Act) (w : World), Lone md ops i oi l → (∀ b, b ∈ B → l.getD b true = false) → Closed md ops l → i ∈ Region.ready md ops l → YieldsIf P ops S oi v a → S w →
      wpAnyG P md ops Q B S fuel (l.setIfInBounds i true) (a.put oi.dst v) w → wpAnyG P md ops Q B S (fuel + 1) l a w := by
  induction fuel with
  | zero =>
    intro l a w _ _ _ hr hy hS H
    constructor
    · intro h
      rw [h] at hr
      exact absurd hr List.not_mem_nil
    · intro j hj
      rcases Decidable.em (j = i) with rfl | hne
      · exact YieldsIf.wpOp hi hy hS ⟨fun _ => hS, H⟩
      · have := ready_mono hj hne
        rw [H.1] at this
        exact absurd this List.not_mem_nil
  | succ n ih =>
    intro l a w hl hB hcl hr hy hS H
    constructor
    · intro h
      rw [h] at hr
      exact absurd hr List.not_mem_nil
    · intro j hj
      rcases Decidable.em (j = i) with rfl | hne
      · exact YieldsIf.wpOp hi hy hS ⟨fun _ => hS, H⟩
      · have hiu := (mem_ready.1 hr).1
        obtain ⟨hju, oj, hoj, _⟩ := mem_ready.1 hj
        have hw := none_waits hiu hj hoj
        have out : ∀ b, b ∈ B → j ≠ b := by
          rintro b hb rfl
          exact waits_not hcl (hwait j hb).1 hiu hj
        have step := wpOp_putIf hoj (hl j oj hoj hne hju hw) (fun cs b => hsel i oi cs b hi) (fun cs b => hsel j oj cs b hoj) hQ hy (H.2 j (ready_mono hj hne))
        apply wpOp_mono _ step
        rintro a' w' ⟨y', s', H'⟩
        have S' : S w' := s' (fun b hb => by
          rw [getD_set_ne true (out b hb), getD_set_ne true (Ne.symm (hwait b hb).2)]
          exact hB b hb)
        refine ⟨fun _ => S', ih _ a' w' hl.set (fun b hb => ?_) (hcl.set hj) (ready_mono hr (Ne.symm hne)) y' S' ?_⟩
        · rw [getD_set_ne true (out b hb)]
          exact hB b hb
        · rw [Array.setIfInBounds_comm _ _ hne]
          exact H'
inductive PW where
  | done
  | quiet (i : Nat) (t : PW)
  | eff (i : Nat) (t : PW)
  | wall (i : Nat) (t : PW)
def PW.len : PW → Nat
  | .done => 0
  | .quiet _ t => t.len + 1
  | .eff _ t => t.len + 1
  | .wall _ t => t.len + 1
def PW.ok (md : Region.Mode) (ops : Array Oper) : PW → List Nat → Array Bool → Bool
  | .done, _, l => (Region.ready md ops l).isEmpty
  | .quiet i t, B, l => Region.free md ops l i && (Region.ready md ops l).contains i && B.all (fun b => waits md ops b i && !(Nat.beq b i) && !(l.getD b true)) && t.ok md ops B (l.setIfInBounds i true)
  | .eff i t, B, l => Region.ready md ops l == [i] && t.ok md ops B (l.setIfInBounds i true)
  | .wall i t, B, l => Region.ready md ops l == [i] && B.contains i && decide (i < l.size) && t.ok md ops [] (l.setIfInBounds i true)
def PW.wp (P : Program) (ops : Array Oper) (Q : Exit → Act → World → Prop) : PW → (World → Prop) → Act → World → Prop
  | .done, _, a, w => Q .normal a w
  | .quiet i t, S, a, w => ∃ o, ops[i]? = some o ∧ ((Region.wanted o (yielded ops a.tmps) = false ∧ t.wp P ops Q S (a.put o.dst undef) w) ∨ (Region.wanted o (yielded ops a.tmps) = true ∧ ∃ v, (∀ w', S w' → (execOp a.eval o).run P w' = .ok (.value v) w') ∧ t.wp P ops Q S (a.put o.dst v) w))
  | .eff i t, S, a, w => ∃ o, ops[i]? = some o ∧ ((Region.wanted o (yielded ops a.tmps) = false ∧ t.wp P ops Q S (a.put o.dst undef) w) ∨ Region.wanted o (yielded ops a.tmps) = true ∧ o.wp P a w (fun a' w' => ∃ S' : World → Prop, (∀ x, S' x → S x) ∧ S' w' ∧ t.wp P ops Q S' a' w') Q)
  | .wall i t, _, a, w => ∃ o, ops[i]? = some o ∧ Region.wanted o (yielded ops a.tmps) = true ∧ o.wp P a w (fun a' w' => t.wp P ops Q (fun _ => True) a' w') Q
variable {S : World → Prop} {o : Oper} {a : Act} {w : World} {i : Nat} {t : PW}
theorem pw_quiet {v : Value} (ho : ops[i]? = some o) (hw : Region.wanted o (yielded ops a.tmps) = true) (hv : ∀ w', S w' → (execOp a.eval o).run P w' = .ok (.value v) w') {k : Tmp} (hk : o.dst = some k) (h : t.wp P ops Q S { a with tmps := a.tmps.setIfInBounds k v } w) : (PW.quiet i t).wp P ops Q S a w :=
  ⟨o, ho, .inr ⟨hw, v, hv, by rw [hk]; exact h⟩⟩
theorem pw_skip (ho : ops[i]? = some o) (hw : Region.wanted o (yielded ops a.tmps) = false) {k : Tmp} (hk : o.dst = some k) (h : t.wp P ops Q S { a with tmps := a.tmps.setIfInBounds k undef } w) : (PW.quiet i t).wp P ops Q S a w :=
  ⟨o, ho, .inl ⟨hw, by rw [hk]; exact h⟩⟩
theorem pw_skipE (ho : ops[i]? = some o) (hw : Region.wanted o (yielded ops a.tmps) = false) {k : Tmp} (hk : o.dst = some k) (h : t.wp P ops Q S { a with tmps := a.tmps.setIfInBounds k undef } w) : (PW.eff i t).wp P ops Q S a w :=
  ⟨o, ho, .inl ⟨hw, by rw [hk]; exact h⟩⟩
theorem pw_eff (ho : ops[i]? = some o) (hw : Region.wanted o (yielded ops a.tmps) = true) (h : ∀ K : Act → World → Prop, (∀ (S' : World → Prop) a' w', (∀ x, S' x → S x) → S' w' → t.wp P ops Q S' a' w' → K a' w') → o.wp P a w K Q) : (PW.eff i t).wp P ops Q S a w :=
  ⟨o, ho, .inr ⟨hw, h _ (fun S' _ _ h0 h1 h2 => ⟨S', h0, h1, h2⟩)⟩⟩
theorem pw_wall (ho : ops[i]? = some o) (hw : Region.wanted o (yielded ops a.tmps) = true) (h : ∀ K : Act → World → Prop, (∀ a' w', t.wp P ops Q (fun _ => True) a' w' → K a' w') → o.wp P a w K Q) : (PW.wall i t).wp P ops Q S a w :=
  ⟨o, ho, hw, h _ (fun _ _ h => h)⟩
theorem pw_done (h : Q .normal a w) : PW.done.wp P ops Q S a w := h
theorem wpAnyG_done {B : List Nat} {listed : Array Bool} (hr : Region.ready md ops listed = []) (h : Q .normal a w) :
    ∀ fuel, wpAnyG P md ops Q B S fuel listed a w
  | 0 => ⟨hr, h⟩
  | _ + 1 => ⟨fun _ => h, by rw [hr]; simp⟩
theorem pw_sound (md : Region.Mode) (hs : Region.noSelect ops = true) (hQ : ∀ c d v a w, Q (.panic c) (Act.put a d v) w → Q (.panic c) a w) :
    ∀ (t : PW) (B : List Nat) (S : World → Prop) (fuel : Nat) (listed : Array Bool) (a : Act) (w : World), t.len ≤ fuel → t.ok md ops B listed = true → Closed md ops listed → S w → t.wp P ops Q S a w → wpAnyG P md ops Q B S fuel listed a w := by
  intro t
  induction t with
  | done =>
    intro B S fuel listed a w _ hp _ _ h
    exact wpAnyG_done (by simpa [PW.ok] using hp) h fuel
  | quiet i t ih =>
    intro B S fuel listed a w hf hp hcl hS h
    cases fuel with
    | zero => simp [PW.len] at hf
    | succ fuel =>
      simp only [PW.len, Nat.add_le_add_iff_right] at hf
      simp only [PW.ok, Bool.and_eq_true, List.all_eq_true, Bool.not_eq_true'] at hp
      obtain ⟨⟨⟨p1, p2⟩, p3⟩, p4⟩ := hp
      obtain ⟨o, ho, hh⟩ := h
      have key : ∀ v, YieldsIf P ops S o v a → t.wp P ops Q S (a.put o.dst v) w → wpAnyG P md ops Q B S (fuel + 1) listed a w := fun v hy h => wpAnyG_first ho (Region.noSelect_spec hs) (fun c a w h => hQ c _ _ a w h) (fun b hb => ⟨(p3 b hb).1.1, (fun e => (by have := (p3 b hb).1.2; rw [e, Nat.beq_refl] at this; cases this))⟩) fuel listed a w (Region.free_spec ho p1) (fun b hb => (p3 b hb).2) hcl (by simpa using p2) hy hS (ih B S fuel _ _ _ hf p4 (hcl.set (by simpa using p2)) hS h)
      rcases hh with ⟨hw, h⟩ | ⟨hw, v, hv, h⟩
      · exact key _ (.inr ⟨hw, rfl⟩) h
      · exact key v (.inl ⟨hw, hv⟩) h
  | eff i t ih =>
    intro B S fuel listed a w hf hp hcl hS h
    cases fuel with
    | zero => simp [PW.len] at hf
    | succ fuel =>
      simp only [PW.len, Nat.add_le_add_iff_right] at hf
      simp only [PW.ok, Bool.and_eq_true] at hp
      have hr : Region.ready md ops listed = [i] := by simpa using hp.1
      refine ⟨(fun h0 => (by rw [hr] at h0; cases h0)), fun j hj => ?_⟩
      obtain rfl : j = i := by have hj2 := hj; rw [hr] at hj2; simpa using hj2
      obtain ⟨o, ho, ⟨hw, h⟩ | ⟨hw, h⟩⟩ := h
      · unfold wpOp
        rw [ho]
        simp only []
        rw [if_neg (by rw [hw]; simp)]
        exact ⟨fun _ => hS, ih B S fuel _ _ _ hf hp.2 (hcl.set hj) hS h⟩
      unfold wpOp
      rw [ho]
      simp only []
      rw [if_pos hw]
      exact .inl (Oper.wp_mono (fun a' w' ⟨S', h0, h1, h2⟩ => ⟨fun _ => h0 _ h1, wpAnyG_mono h0 _ _ _ _ (ih B S' fuel _ a' w' hf hp.2 (hcl.set hj) h1 h2)⟩) h)
  | wall i t ih =>
    intro B S fuel listed a w hf hp hcl hS h
    cases fuel with
    | zero => simp [PW.len] at hf
    | succ fuel =>
      simp only [PW.len, Nat.add_le_add_iff_right] at hf
      simp only [PW.ok, Bool.and_eq_true, decide_eq_true_eq] at hp
      obtain ⟨⟨⟨p1, p2⟩, p3⟩, p4⟩ := hp
      have hr : Region.ready md ops listed = [i] := by simpa using p1
      refine ⟨(fun h0 => (by rw [hr] at h0; cases h0)), fun j hj => ?_⟩
      obtain rfl : j = i := by have hj2 := hj; rw [hr] at hj2; simpa using hj2
      obtain ⟨o, ho, hw, h⟩ := h
      have hjB : j ∈ B := by simpa using p2
      have hset : (listed.setIfInBounds j true).getD j true = true := by simp [p3]
      unfold wpOp
      rw [ho]
      simp only []
      rw [if_pos hw]
      exact .inl (Oper.wp_mono (fun a' w' h2 => ⟨(fun hn => (by have := hn j hjB; rw [hset] at this; cases this)), wpAnyG_drop hjB _ _ _ _ hset (ih [] (fun _ => True) fuel _ a' w' hf p4 (hcl.set hj) trivial h2)⟩) h)
theorem closed_none (md : Region.Mode) (ops : Array Oper) (n : Nat) : Closed md ops (Array.replicate n false) := by
  intro j o _ h
  exfalso
  by_cases hj : j < n
  · simp [hj] at h
  · simp [hj] at h
/-- The region, in one order, with a wall. -/
theorem wp_region_wall {id : Nat} (B : List Nat) (S : World → Prop) (t : PW) (hm : P.follows .mixedOrders = true) (hs : Region.noSelect ops = true)
    (hp : t.ok .any ops B (Array.replicate ops.size false) = true) (hn : decide (t.len ≤ ops.size) = true) (hQ : ∀ c d v a w, Q (.panic c) (Act.put a d v) w → Q (.panic c) a w) (hS : S w.drew)
    (h : t.wp P ops Q S a w.drew) : (Code.region id ops true).wp P Q a w :=
  wp_region_any hm (wpAny_of_G _ _ _ _ (pw_sound .any hs hQ t B S _ _ _ _ (of_decide_eq_true hn) hp (closed_none _ _ _) hS h))
end
end Go.Proofs.Ytmamcnhofgfolaa
namespace Go.Proofs.Ytmamcnhofgfolaa
open Go
inductive PU where
  | done
  | quiet (i : Nat) (t : PU)
  | eff (i : Nat) (t : PU)
  | two (i : Nat) (t : PU) (j : Nat) (u : PU)
  | three (i : Nat) (t : PU) (j : Nat) (u : PU) (k : Nat) (v : PU)
def PU.len : PU → Nat
  | .done => 0
  | .quiet _ t => t.len + 1
  | .eff _ t => t.len + 1
  | .two _ t _ u => Nat.max t.len u.len + 1
  | .three _ t _ u _ v => Nat.max t.len (Nat.max u.len v.len) + 1
def PU.ok (md : Region.Mode) (ops : Array Oper) : PU → Array Bool → Bool
  | .done, l => (Region.ready md ops l).isEmpty
  | .quiet i t, l => Region.free md ops l i && (Region.ready md ops l).contains i && t.ok md ops (l.setIfInBounds i true)
  | .eff i t, l => Region.ready md ops l == [i] && t.ok md ops (l.setIfInBounds i true)
  | .two i t j u, l => Region.ready md ops l == [i, j] && t.ok md ops (l.setIfInBounds i true) && u.ok md ops (l.setIfInBounds j true)
  | .three i t j u k v, l => Region.ready md ops l == [i, j, k] && t.ok md ops (l.setIfInBounds i true) && u.ok md ops (l.setIfInBounds j true) && v.ok md ops (l.setIfInBounds k true)
def PU.wp (P : Program) (ops : Array Oper) (Q : Exit → Act → World → Prop) : PU → (World → Prop) → Act → World → Prop
  | .done, _, a, w => Q .normal a w
  | .quiet i t, S, a, w => ∃ o, ops[i]? = some o ∧ Region.wanted o (yielded ops a.tmps) = true ∧ ∃ v, (∀ w', S w' → (execOp a.eval o).run P w' = .ok (.value v) w') ∧ t.wp P ops Q S (a.put o.dst v) w
  | .eff i t, S, a, w => ∃ o, ops[i]? = some o ∧ Region.wanted o (yielded ops a.tmps) = true ∧ o.wp P a w (fun a' w' => ∃ S' : World → Prop, (∀ x, S' x → S x) ∧ S' w' ∧ t.wp P ops Q S' a' w') Q
  | .two i t j u, S, a, w => (∃ o, ops[i]? = some o ∧ Region.wanted o (yielded ops a.tmps) = true ∧ o.wp P a w (fun a' w' => ∃ S' : World → Prop, (∀ x, S' x → S x) ∧ S' w' ∧ t.wp P ops Q S' a' w') Q) ∧
    (∃ o, ops[j]? = some o ∧ Region.wanted o (yielded ops a.tmps) = true ∧ o.wp P a w (fun a' w' => ∃ S' : World → Prop, (∀ x, S' x → S x) ∧ S' w' ∧ u.wp P ops Q S' a' w') Q)
  | .three i t j u k v, S, a, w => (∃ o, ops[i]? = some o ∧ Region.wanted o (yielded ops a.tmps) = true ∧ o.wp P a w (fun a' w' => ∃ S' : World → Prop, (∀ x, S' x → S x) ∧ S' w' ∧ t.wp P ops Q S' a' w') Q) ∧
    (∃ o, ops[j]? = some o ∧ Region.wanted o (yielded ops a.tmps) = true ∧ o.wp P a w (fun a' w' => ∃ S' : World → Prop, (∀ x, S' x → S x) ∧ S' w' ∧ u.wp P ops Q S' a' w') Q) ∧
    (∃ o, ops[k]? = some o ∧ Region.wanted o (yielded ops a.tmps) = true ∧ o.wp P a w (fun a' w' => ∃ S' : World → Prop, (∀ x, S' x → S x) ∧ S' w' ∧ v.wp P ops Q S' a' w') Q)
section
variable {P : Program} {ops : Array Oper} {Q : Exit → Act → World → Prop} {S : World → Prop} {o : Oper} {a : Act} {w : World} {i : Nat} {t : PU}
theorem pu_quiet {v : Value} (ho : ops[i]? = some o) (hw : Region.wanted o (yielded ops a.tmps) = true) (hv : ∀ w', S w' → (execOp a.eval o).run P w' = .ok (.value v) w') {k : Tmp} (hk : o.dst = some k) (h : t.wp P ops Q S { a with tmps := a.tmps.setIfInBounds k v } w) : (PU.quiet i t).wp P ops Q S a w :=
  ⟨o, ho, hw, v, hv, by rw [hk]; exact h⟩
theorem pu_one (ho : ops[i]? = some o) (hw : Region.wanted o (yielded ops a.tmps) = true) (h : ∀ K : Act → World → Prop, (∀ (S' : World → Prop) a' w', (∀ x, S' x → S x) → S' w' → t.wp P ops Q S' a' w' → K a' w') → o.wp P a w K Q) :
    ∃ o, ops[i]? = some o ∧ Region.wanted o (yielded ops a.tmps) = true ∧ o.wp P a w (fun a' w' => ∃ S' : World → Prop, (∀ x, S' x → S x) ∧ S' w' ∧ t.wp P ops Q S' a' w') Q :=
  ⟨o, ho, hw, h _ (fun S' _ _ h0 h1 h2 => ⟨S', h0, h1, h2⟩)⟩
theorem pu_eff (ho : ops[i]? = some o) (hw : Region.wanted o (yielded ops a.tmps) = true) (h : ∀ K : Act → World → Prop, (∀ (S' : World → Prop) a' w', (∀ x, S' x → S x) → S' w' → t.wp P ops Q S' a' w' → K a' w') → o.wp P a w K Q) : (PU.eff i t).wp P ops Q S a w :=
  pu_one ho hw h
theorem pu_done (h : Q .normal a w) : PU.done.wp P ops Q S a w := h
theorem pu_sound (md : Region.Mode) (hs : Region.noSelect ops = true) (hQ : ∀ c d v a w, Q (.panic c) (Act.put a d v) w → Q (.panic c) a w) :
    ∀ (t : PU) (S : World → Prop) (fuel : Nat) (listed : Array Bool) (a : Act) (w : World), t.len ≤ fuel → t.ok md ops listed = true → S w → t.wp P ops Q S a w → wpAnyH P md ops Q S fuel listed a w := by
  have step : ∀ (i : Nat) (t : PU) (S : World → Prop) (fuel : Nat) (listed : Array Bool) (a : Act) (w : World),
      (∀ S' a w, S' w → t.wp P ops Q S' a w → wpAnyH P md ops Q S' fuel (listed.setIfInBounds i true) a w) →
      (∃ o, ops[i]? = some o ∧ Region.wanted o (yielded ops a.tmps) = true ∧ o.wp P a w (fun a' w' => ∃ S' : World → Prop, (∀ x, S' x → S x) ∧ S' w' ∧ t.wp P ops Q S' a' w') Q) →
      wpOp P ops Q i (fun a' w' => S w' ∧ wpAnyH P md ops Q S fuel (listed.setIfInBounds i true) a' w') a w := by
    intro i t S fuel listed a w ih ⟨o, ho, hw, h⟩
    unfold wpOp
    rw [ho]
    simp only []
    rw [if_pos hw]
    exact .inl (Oper.wp_mono (fun a' w' ⟨S', h0, h1, h2⟩ => ⟨h0 _ h1, wpAnyH_mono h0 _ _ _ _ (ih S' a' w' h1 h2)⟩) h)
  intro t
  induction t with
  | done =>
    intro S fuel listed a w _ hp _ h
    exact wpAnyH_done (by simpa [PU.ok] using hp) h fuel
  | quiet i t ih =>
    intro S fuel listed a w hf hp hS h
    cases fuel with
    | zero => simp [PU.len] at hf
    | succ fuel =>
      simp only [PU.len, Nat.add_le_add_iff_right] at hf
      simp only [PU.ok, Bool.and_eq_true] at hp
      obtain ⟨o, ho, hw, v, hv, h⟩ := h
      exact wpAnyH_take ho hs hp.1.1 hp.1.2 (fun c a w h => hQ c _ _ a w h) (.inl ⟨hw, hv⟩) hS (ih S fuel _ _ _ hf hp.2 hS h)
  | eff i t ih =>
    intro S fuel listed a w hf hp hS h
    cases fuel with
    | zero => simp [PU.len] at hf
    | succ fuel =>
      simp only [PU.len, Nat.add_le_add_iff_right] at hf
      simp only [PU.ok, Bool.and_eq_true] at hp
      have hr : Region.ready md ops listed = [i] := by simpa using hp.1
      refine wpAnyH_all hr (by simp) (fun j hj => ?_)
      obtain rfl : j = i := by simpa using hj
      exact step j t S fuel listed a w (fun S' a w hS' h' => ih S' fuel _ a w hf hp.2 hS' h') h
  | two i t j u iht ihu =>
    intro S fuel listed a w hf hp hS h
    cases fuel with
    | zero => simp [PU.len] at hf
    | succ fuel =>
      simp only [PU.len, Nat.add_le_add_iff_right] at hf
      have hf1 : t.len ≤ fuel := Nat.le_trans (Nat.le_max_left _ _) hf
      have hf2 : u.len ≤ fuel := Nat.le_trans (Nat.le_max_right _ _) hf
      simp only [PU.ok, Bool.and_eq_true] at hp
      have hr : Region.ready md ops listed = [i, j] := by simpa using hp.1.1
      refine wpAnyH_all hr (by simp) (fun k hk => ?_)
      rw [List.mem_cons, List.mem_singleton] at hk
      rcases hk with rfl | rfl
      · exact step k t S fuel listed a w (fun S' a w hS' h' => iht S' fuel _ a w hf1 hp.1.2 hS' h') h.1
      · exact step k u S fuel listed a w (fun S' a w hS' h' => ihu S' fuel _ a w hf2 hp.2 hS' h') h.2
  | three i t j u k v iht ihu ihv =>
    intro S fuel listed a w hf hp hS h
    cases fuel with
    | zero => simp [PU.len] at hf
    | succ fuel =>
      simp only [PU.len, Nat.add_le_add_iff_right] at hf
      have hf1 : t.len ≤ fuel := Nat.le_trans (Nat.le_max_left _ _) hf
      have hf2 : u.len ≤ fuel := Nat.le_trans (Nat.le_trans (Nat.le_max_left _ _) (Nat.le_max_right _ _)) hf
      have hf3 : v.len ≤ fuel := Nat.le_trans (Nat.le_trans (Nat.le_max_right _ _) (Nat.le_max_right _ _)) hf
      simp only [PU.ok, Bool.and_eq_true] at hp
      have hr : Region.ready md ops listed = [i, j, k] := by simpa using hp.1.1.1
      refine wpAnyH_all hr (by simp) (fun m hm => ?_)
      rw [List.mem_cons, List.mem_cons, List.mem_singleton] at hm
      rcases hm with rfl | rfl | rfl
      · exact step m t S fuel listed a w (fun S' a w hS' h' => iht S' fuel _ a w hf1 hp.1.1.2 hS' h') h.1
      · exact step m u S fuel listed a w (fun S' a w hS' h' => ihu S' fuel _ a w hf2 hp.1.2 hS' h') h.2.1
      · exact step m v S fuel listed a w (fun S' a w hS' h' => ihv S' fuel _ a w hf3 hp.2 hS' h') h.2.2
/-- The region, by a tree. -/
theorem wp_region_tree3 {id : Nat} (S : World → Prop) (t : PU) (hm : P.follows .mixedOrders = true) (hs : Region.noSelect ops = true)
    (hp : t.ok .any ops (Array.replicate ops.size false) = true) (hn : decide (t.len ≤ ops.size) = true) (hQ : ∀ c d v a w, Q (.panic c) (Act.put a d v) w → Q (.panic c) a w) (hS : S w.drew)
    (h : t.wp P ops Q S a w.drew) : (Code.region id ops true).wp P Q a w :=
  wp_region_held hm (pu_sound .any hs hQ t S _ _ _ _ (of_decide_eq_true hn) hp hS h)
end
end Go.Proofs.Ytmamcnhofgfolaa
namespace Go.Proofs.Ytmamcnhofgfolaa
open Go
section
variable {P : Program} {ops : Array Oper} {Q : Exit → Act → World → Prop} {md : Region.Mode}
/-- Does b wait for i, through at most n? -/
def waitsN (md : Region.Mode) (ops : Array Oper) (i : Nat) : Nat → Nat → Bool
  | 0, _ => false
  | n + 1, b => match ops[b]? with
    | some o => o.after.any (fun e => Region.binds md e && (Nat.beq e.on i || waitsN md ops i n e.on))
    | none => false
theorem waitsN_listed {i : Nat} {l : Array Bool} (hc : Closed md ops l) : ∀ (n b : Nat) (o : Oper), ops[b]? = some o → (∀ e ∈ o.after, Region.binds md e = true → l.getD e.on false = true) → waitsN md ops i n b = true → l.getD i false = true := by
  intro n
  induction n with
  | zero => intro b o _ _ h; simp [waitsN] at h
  | succ n ih =>
    intro b o ho hall h
    unfold waitsN at h
    rw [ho] at h
    simp only [Array.any_eq_true', Bool.and_eq_true, Bool.or_eq_true] at h
    obtain ⟨e, he, hb, hh⟩ := h
    have h1 := hall e he hb
    rcases hh with hh | hh
    · rwa [Nat.eq_of_beq_eq_true hh] at h1
    · cases hm : ops[e.on]? with
      | none =>
        cases n with
        | zero => simp [waitsN] at hh
        | succ n => unfold waitsN at hh; rw [hm] at hh; cases hh
      | some om => exact ih e.on om hm (fun e2 he2 hb2 => hc e.on om hm h1 e2 he2 hb2) hh
theorem waitsN_not {b i n : Nat} {listed : Array Bool} (hc : Closed md ops listed) (hw : waitsN md ops i n b = true) (hi : listed.getD i true = false) : ¬ b ∈ Region.ready md ops listed := by
  intro hb
  obtain ⟨_, ob, hob, hall⟩ := mem_ready.1 hb
  exact listed_no hi (waitsN_listed hc n b ob hob (fun e he hb2 => by simpa using hall e he hb2) hw)
/-- Whoever could still come ahead of i is apart from it, or waits for it. -/
def Lone6 (md : Region.Mode) (ops : Array Oper) (n : Nat) (i : Nat) (oi : Oper) (l : Array Bool) : Prop := ∀ j oj, ops[j]? = some oj → j ≠ i → l.getD j true = false → waitsN md ops i n j = false → oi.apart ops oj = true
def free6 (md : Region.Mode) (ops : Array Oper) (n : Nat) (l : Array Bool) (i : Nat) : Bool := match ops[i]? with
  | none => false
  | some oi => (List.range ops.size).all fun j => match ops[j]? with
    | none => true
    | some oj => Nat.beq j i || l.getD j true || waitsN md ops i n j || oi.apart ops oj
theorem free6_spec {n i : Nat} {oi : Oper} {l : Array Bool} (hi : ops[i]? = some oi) (h : free6 md ops n l i = true) : Lone6 md ops n i oi l := by
  intro j oj hoj hne hun hw
  unfold free6 at h
  rw [hi] at h
  simp only [List.all_eq_true, List.mem_range] at h
  have hj : j < ops.size := (Array.getElem?_eq_some_iff.1 hoj).1
  have := h j hj
  rw [hoj] at this
  simp only [hun, hw, Bool.or_false, Bool.or_eq_true] at this
  rcases this with h1 | h1
  · exact absurd (Nat.eq_of_beq_eq_true h1) hne
  · exact h1
theorem Lone6.set {n i j : Nat} {oi : Oper} {l : Array Bool} (h : Lone6 md ops n i oi l) : Lone6 md ops n i oi (l.setIfInBounds j true) := fun k ok hk hki hun hno => h k ok hk hki (unset hun) hno
/-- What yields its value as long as S holds may be taken first, if all of B wait for it. -/
theorem wpAnyG_first6 {N : Nat} {B : List Nat} {S : World → Prop} {i : Nat} {oi : Oper} {v : Value} (hi : ops[i]? = some oi) (hsel : ∀ (j : Nat) (o : Oper) cs b, ops[j]? = some o → o.op ≠ .select cs b)
    (hQ : ∀ c a w, Q (.panic c) (a.put oi.dst v) w → Q (.panic c) a w) (hwait : ∀ b, b ∈ B → waitsN md ops i N b = true ∧ b ≠ i) (fuel : Nat) :
    ∀ (l : Array Bool) (a : Act) (w : World), Lone6 md ops N i oi l → (∀ b, b ∈ B → l.getD b true = false) → Closed md ops l → i ∈ Region.ready md ops l → YieldsIf P ops S oi v a → S w →
      wpAnyG P md ops Q B S fuel (l.setIfInBounds i true) (a.put oi.dst v) w → wpAnyG P md ops Q B S (fuel + 1) l a w := by
  induction fuel with
  | zero =>
    intro l a w _ _ _ hr hy hS H
    constructor
    · intro h
      rw [h] at hr
      exact absurd hr List.not_mem_nil
    · intro j hj
      rcases Decidable.em (j = i) with rfl | hne
      · exact YieldsIf.wpOp hi hy hS ⟨fun _ => hS, H⟩
      · have := ready_mono hj hne
        rw [H.1] at this
        exact absurd this List.not_mem_nil
  | succ n ih =>
    intro l a w hl hB hcl hr hy hS H
    constructor
    · intro h
      rw [h] at hr
      exact absurd hr List.not_mem_nil
    · intro j hj
      rcases Decidable.em (j = i) with rfl | hne
      · exact YieldsIf.wpOp hi hy hS ⟨fun _ => hS, H⟩
      · have hiu := (mem_ready.1 hr).1
        obtain ⟨hju, oj, hoj, _⟩ := mem_ready.1 hj
        have hw : waitsN md ops i N j = false := by
          cases hb : waitsN md ops i N j
          · rfl
          · exact absurd hj (waitsN_not hcl hb hiu)
        have out : ∀ b, b ∈ B → j ≠ b := by
          rintro b hb rfl
          exact waitsN_not hcl (hwait j hb).1 hiu hj
        have step := wpOp_putIf hoj (hl j oj hoj hne hju hw) (fun cs b => hsel i oi cs b hi) (fun cs b => hsel j oj cs b hoj) hQ hy (H.2 j (ready_mono hj hne))
        apply wpOp_mono _ step
        rintro a' w' ⟨y', s', H'⟩
        have S' : S w' := s' (fun b hb => by
          rw [getD_set_ne true (out b hb), getD_set_ne true (Ne.symm (hwait b hb).2)]
          exact hB b hb)
        refine ⟨fun _ => S', ih _ a' w' hl.set (fun b hb => ?_) (hcl.set hj) (ready_mono hr (Ne.symm hne)) y' S' ?_⟩
        · rw [getD_set_ne true (out b hb)]
          exact hB b hb
        · rw [Array.setIfInBounds_comm _ _ hne]
          exact H'
inductive PX where
  | done
  | quiet (i : Nat) (t : PX)
  | eff (i : Nat) (t : PX)
  | wall (i : Nat) (t : PX)
  | two (i : Nat) (t : PX) (j : Nat) (u : PX)
  | three (i : Nat) (t : PX) (j : Nat) (u : PX) (k : Nat) (v : PX)
  | four (i : Nat) (t : PX) (j : Nat) (u : PX) (k : Nat) (v : PX) (m : Nat) (x : PX)
def PX.len : PX → Nat
  | .done => 0
  | .quiet _ t => t.len + 1
  | .eff _ t => t.len + 1
  | .wall _ t => t.len + 1
  | .two _ t _ u => Nat.max t.len u.len + 1
  | .three _ t _ u _ v => Nat.max t.len (Nat.max u.len v.len) + 1
  | .four _ t _ u _ v _ x => Nat.max (Nat.max t.len u.len) (Nat.max v.len x.len) + 1
def PX.ok (md : Region.Mode) (ops : Array Oper) (N : Nat) : PX → List Nat → Array Bool → Bool
  | .done, _, l => (Region.ready md ops l).isEmpty
  | .quiet i t, B, l => free6 md ops N l i && (Region.ready md ops l).contains i && B.all (fun b => waitsN md ops i N b && !(Nat.beq b i) && !(l.getD b true)) && t.ok md ops N B (l.setIfInBounds i true)
  | .eff i t, B, l => Region.ready md ops l == [i] && t.ok md ops N B (l.setIfInBounds i true)
  | .wall i t, B, l => Region.ready md ops l == [i] && B.contains i && decide (i < l.size) && t.ok md ops N [] (l.setIfInBounds i true)
  | .two i t j u, B, l => Region.ready md ops l == [i, j] && t.ok md ops N B (l.setIfInBounds i true) && u.ok md ops N B (l.setIfInBounds j true)
  | .three i t j u k v, B, l => Region.ready md ops l == [i, j, k] && t.ok md ops N B (l.setIfInBounds i true) && u.ok md ops N B (l.setIfInBounds j true) && v.ok md ops N B (l.setIfInBounds k true)
  | .four i t j u k v m x, B, l => Region.ready md ops l == [i, j, k, m] && t.ok md ops N B (l.setIfInBounds i true) && u.ok md ops N B (l.setIfInBounds j true) && v.ok md ops N B (l.setIfInBounds k true) && x.ok md ops N B (l.setIfInBounds m true)
/-- One operation, and what comes behind it. -/
def PX.one (P : Program) (ops : Array Oper) (Q : Exit → Act → World → Prop) (i : Nat) (S : World → Prop) (F : (World → Prop) → Act → World → Prop) (a : Act) (w : World) : Prop :=
  ∃ o, ops[i]? = some o ∧ ((Region.wanted o (yielded ops a.tmps) = false ∧ F S (a.put o.dst undef) w) ∨ (Region.wanted o (yielded ops a.tmps) = true ∧ o.wp P a w (fun a' w' => ∃ S' : World → Prop, (∀ x, S' x → S x) ∧ S' w' ∧ F S' a' w') Q))
def PX.wp (P : Program) (ops : Array Oper) (Q : Exit → Act → World → Prop) : PX → (World → Prop) → Act → World → Prop
  | .done, _, a, w => Q .normal a w
  | .quiet i t, S, a, w => ∃ o, ops[i]? = some o ∧ ((Region.wanted o (yielded ops a.tmps) = false ∧ t.wp P ops Q S (a.put o.dst undef) w) ∨ (Region.wanted o (yielded ops a.tmps) = true ∧ ∃ v, (∀ w', S w' → (execOp a.eval o).run P w' = .ok (.value v) w') ∧ t.wp P ops Q S (a.put o.dst v) w))
  | .eff i t, S, a, w => PX.one P ops Q i S (fun S a w => t.wp P ops Q S a w) a w
  | .wall i t, _, a, w => ∃ o, ops[i]? = some o ∧ Region.wanted o (yielded ops a.tmps) = true ∧ o.wp P a w (fun a' w' => ∃ S' : World → Prop, S' w' ∧ t.wp P ops Q S' a' w') Q
  | .two i t j u, S, a, w => PX.one P ops Q i S (fun S a w => t.wp P ops Q S a w) a w ∧ PX.one P ops Q j S (fun S a w => u.wp P ops Q S a w) a w
  | .three i t j u k v, S, a, w => PX.one P ops Q i S (fun S a w => t.wp P ops Q S a w) a w ∧ PX.one P ops Q j S (fun S a w => u.wp P ops Q S a w) a w ∧ PX.one P ops Q k S (fun S a w => v.wp P ops Q S a w) a w
  | .four i t j u k v m x, S, a, w => PX.one P ops Q i S (fun S a w => t.wp P ops Q S a w) a w ∧ PX.one P ops Q j S (fun S a w => u.wp P ops Q S a w) a w ∧ PX.one P ops Q k S (fun S a w => v.wp P ops Q S a w) a w ∧ PX.one P ops Q m S (fun S a w => x.wp P ops Q S a w) a w
variable {S : World → Prop} {o : Oper} {a : Act} {w : World} {i : Nat} {t : PX}
theorem px_quiet {v : Value} (ho : ops[i]? = some o) (hw : Region.wanted o (yielded ops a.tmps) = true) (hv : ∀ w', S w' → (execOp a.eval o).run P w' = .ok (.value v) w') {k : Tmp} (hk : o.dst = some k) (h : t.wp P ops Q S { a with tmps := a.tmps.setIfInBounds k v } w) : (PX.quiet i t).wp P ops Q S a w :=
  ⟨o, ho, .inr ⟨hw, v, hv, by rw [hk]; exact h⟩⟩
theorem px_skip (ho : ops[i]? = some o) (hw : Region.wanted o (yielded ops a.tmps) = false) {k : Tmp} (hk : o.dst = some k) (h : t.wp P ops Q S { a with tmps := a.tmps.setIfInBounds k undef } w) : (PX.quiet i t).wp P ops Q S a w :=
  ⟨o, ho, .inl ⟨hw, by rw [hk]; exact h⟩⟩
theorem px_one (ho : ops[i]? = some o) (hw : Region.wanted o (yielded ops a.tmps) = true) (h : ∀ K : Act → World → Prop, (∀ (S' : World → Prop) a' w', (∀ x, S' x → S x) → S' w' → t.wp P ops Q S' a' w' → K a' w') → o.wp P a w K Q) :
    PX.one P ops Q i S (fun S a w => t.wp P ops Q S a w) a w :=
  ⟨o, ho, .inr ⟨hw, h _ (fun S' _ _ h0 h1 h2 => ⟨S', h0, h1, h2⟩)⟩⟩
theorem px_skip1 (ho : ops[i]? = some o) (hw : Region.wanted o (yielded ops a.tmps) = false) {k : Tmp} (hk : o.dst = some k) (h : t.wp P ops Q S { a with tmps := a.tmps.setIfInBounds k undef } w) :
    PX.one P ops Q i S (fun S a w => t.wp P ops Q S a w) a w :=
  ⟨o, ho, .inl ⟨hw, by rw [hk]; exact h⟩⟩
theorem px_eff (ho : ops[i]? = some o) (hw : Region.wanted o (yielded ops a.tmps) = true) (h : ∀ K : Act → World → Prop, (∀ (S' : World → Prop) a' w', (∀ x, S' x → S x) → S' w' → t.wp P ops Q S' a' w' → K a' w') → o.wp P a w K Q) : (PX.eff i t).wp P ops Q S a w :=
  px_one ho hw h
theorem px_skipE (ho : ops[i]? = some o) (hw : Region.wanted o (yielded ops a.tmps) = false) {k : Tmp} (hk : o.dst = some k) (h : t.wp P ops Q S { a with tmps := a.tmps.setIfInBounds k undef } w) : (PX.eff i t).wp P ops Q S a w :=
  px_skip1 ho hw hk h
theorem px_wall (ho : ops[i]? = some o) (hw : Region.wanted o (yielded ops a.tmps) = true) (h : ∀ K : Act → World → Prop, (∀ (S' : World → Prop) a' w', S' w' → t.wp P ops Q S' a' w' → K a' w') → o.wp P a w K Q) : (PX.wall i t).wp P ops Q S a w :=
  ⟨o, ho, hw, h _ (fun S' _ _ h1 h2 => ⟨S', h1, h2⟩)⟩
theorem px_done (h : Q .normal a w) : PX.done.wp P ops Q S a w := h
theorem px_step {B : List Nat} {S : World → Prop} {fuel j : Nat} {t : PX} {listed : Array Bool} {a : Act} {w : World} (hS : S w)
    (ih : ∀ (S' : World → Prop) a w, S' w → t.wp P ops Q S' a w → wpAnyG P md ops Q B S' fuel (listed.setIfInBounds j true) a w)
    (h : PX.one P ops Q j S (fun S a w => t.wp P ops Q S a w) a w) :
    wpOp P ops Q j (fun a' w' => heldTill B S (listed.setIfInBounds j true) w' ∧ wpAnyG P md ops Q B S fuel (listed.setIfInBounds j true) a' w') a w := by
  obtain ⟨o, ho, ⟨hw, h⟩ | ⟨hw, h⟩⟩ := h
  · unfold wpOp
    rw [ho]
    simp only []
    rw [if_neg (by rw [hw]; simp)]
    exact ⟨fun _ => hS, ih S _ _ hS h⟩
  · unfold wpOp
    rw [ho]
    simp only []
    rw [if_pos hw]
    exact .inl (Oper.wp_mono (fun a' w' ⟨S', h0, h1, h2⟩ => ⟨fun _ => h0 _ h1, wpAnyG_mono h0 _ _ _ _ (ih S' a' w' h1 h2)⟩) h)
theorem px_sound (md : Region.Mode) (N : Nat) (hs : Region.noSelect ops = true) (hQ : ∀ c d v a w, Q (.panic c) (Act.put a d v) w → Q (.panic c) a w) :
    ∀ (t : PX) (B : List Nat) (S : World → Prop) (fuel : Nat) (listed : Array Bool) (a : Act) (w : World), t.len ≤ fuel → t.ok md ops N B listed = true → Closed md ops listed → S w → t.wp P ops Q S a w → wpAnyG P md ops Q B S fuel listed a w := by
  intro t
  induction t with
  | done =>
    intro B S fuel listed a w _ hp _ _ h
    exact wpAnyG_done (by simpa [PX.ok] using hp) h fuel
  | quiet i t ih =>
    intro B S fuel listed a w hf hp hcl hS h
    cases fuel with
    | zero => simp [PX.len] at hf
    | succ fuel =>
      simp only [PX.len, Nat.add_le_add_iff_right] at hf
      simp only [PX.ok, Bool.and_eq_true, List.all_eq_true, Bool.not_eq_true'] at hp
      obtain ⟨⟨⟨p1, p2⟩, p3⟩, p4⟩ := hp
      obtain ⟨o, ho, hh⟩ := h
      have key : ∀ v, YieldsIf P ops S o v a → t.wp P ops Q S (a.put o.dst v) w → wpAnyG P md ops Q B S (fuel + 1) listed a w := fun v hy h => wpAnyG_first6 ho (Region.noSelect_spec hs) (fun c a w h => hQ c _ _ a w h) (fun b hb => ⟨(p3 b hb).1.1, (fun e => (by have := (p3 b hb).1.2; rw [e, Nat.beq_refl] at this; cases this))⟩) fuel listed a w (free6_spec ho p1) (fun b hb => (p3 b hb).2) hcl (by simpa using p2) hy hS (ih B S fuel _ _ _ hf p4 (hcl.set (by simpa using p2)) hS h)
      rcases hh with ⟨hw, h⟩ | ⟨hw, v, hv, h⟩
      · exact key _ (.inr ⟨hw, rfl⟩) h
      · exact key v (.inl ⟨hw, hv⟩) h
  | eff i t ih =>
    intro B S fuel listed a w hf hp hcl hS h
    cases fuel with
    | zero => simp [PX.len] at hf
    | succ fuel =>
      simp only [PX.len, Nat.add_le_add_iff_right] at hf
      simp only [PX.ok, Bool.and_eq_true] at hp
      have hr : Region.ready md ops listed = [i] := by simpa using hp.1
      refine ⟨(fun h0 => (by rw [hr] at h0; cases h0)), fun j hj => ?_⟩
      obtain rfl : j = i := by have hj2 := hj; rw [hr] at hj2; simpa using hj2
      exact px_step hS (fun S' a w hS' h' => ih B S' fuel _ a w hf hp.2 (hcl.set hj) hS' h') h
  | wall i t ih =>
    intro B S fuel listed a w hf hp hcl hS h
    cases fuel with
    | zero => simp [PX.len] at hf
    | succ fuel =>
      simp only [PX.len, Nat.add_le_add_iff_right] at hf
      simp only [PX.ok, Bool.and_eq_true, decide_eq_true_eq] at hp
      obtain ⟨⟨⟨p1, p2⟩, p3⟩, p4⟩ := hp
      have hr : Region.ready md ops listed = [i] := by simpa using p1
      refine ⟨(fun h0 => (by rw [hr] at h0; cases h0)), fun j hj => ?_⟩
      obtain rfl : j = i := by have hj2 := hj; rw [hr] at hj2; simpa using hj2
      obtain ⟨o, ho, hw, h⟩ := h
      have hjB : j ∈ B := by simpa using p2
      have hset : (listed.setIfInBounds j true).getD j true = true := by simp [p3]
      unfold wpOp
      rw [ho]
      simp only []
      rw [if_pos hw]
      exact .inl (Oper.wp_mono (fun a' w' ⟨S', h1, h2⟩ => ⟨(fun hn => (by have := hn j hjB; rw [hset] at this; cases this)), wpAnyG_drop hjB _ _ _ _ hset (wpAnyG_mono (fun _ _ => trivial) _ _ _ _ (ih [] S' fuel _ a' w' hf p4 (hcl.set hj) h1 h2))⟩) h)
  | two i t j u iht ihu =>
    intro B S fuel listed a w hf hp hcl hS h
    cases fuel with
    | zero => simp [PX.len] at hf
    | succ fuel =>
      simp only [PX.len, Nat.add_le_add_iff_right] at hf
      have hf1 : t.len ≤ fuel := Nat.le_trans (Nat.le_max_left _ _) hf
      have hf2 : u.len ≤ fuel := Nat.le_trans (Nat.le_max_right _ _) hf
      simp only [PX.ok, Bool.and_eq_true] at hp
      have hr : Region.ready md ops listed = [i, j] := by simpa using hp.1.1
      refine ⟨(fun h0 => (by rw [hr] at h0; cases h0)), fun k hk => ?_⟩
      have hc := hcl.set hk
      rw [hr, List.mem_cons, List.mem_singleton] at hk
      rcases hk with rfl | rfl
      · exact px_step hS (fun S' a w hS' h' => iht B S' fuel _ a w hf1 hp.1.2 hc hS' h') h.1
      · exact px_step hS (fun S' a w hS' h' => ihu B S' fuel _ a w hf2 hp.2 hc hS' h') h.2
  | three i t j u k v iht ihu ihv =>
    intro B S fuel listed a w hf hp hcl hS h
    cases fuel with
    | zero => simp [PX.len] at hf
    | succ fuel =>
      simp only [PX.len, Nat.add_le_add_iff_right] at hf
      have hf1 : t.len ≤ fuel := Nat.le_trans (Nat.le_max_left _ _) hf
      have hf2 : u.len ≤ fuel := Nat.le_trans (Nat.le_trans (Nat.le_max_left _ _) (Nat.le_max_right _ _)) hf
      have hf3 : v.len ≤ fuel := Nat.le_trans (Nat.le_trans (Nat.le_max_right _ _) (Nat.le_max_right _ _)) hf
      simp only [PX.ok, Bool.and_eq_true] at hp
      have hr : Region.ready md ops listed = [i, j, k] := by simpa using hp.1.1.1
      refine ⟨(fun h0 => (by rw [hr] at h0; cases h0)), fun m hm => ?_⟩
      have hc := hcl.set hm
      rw [hr, List.mem_cons, List.mem_cons, List.mem_singleton] at hm
      rcases hm with rfl | rfl | rfl
      · exact px_step hS (fun S' a w hS' h' => iht B S' fuel _ a w hf1 hp.1.1.2 hc hS' h') h.1
      · exact px_step hS (fun S' a w hS' h' => ihu B S' fuel _ a w hf2 hp.1.2 hc hS' h') h.2.1
      · exact px_step hS (fun S' a w hS' h' => ihv B S' fuel _ a w hf3 hp.2 hc hS' h') h.2.2
  | four i t j u k v m x iht ihu ihv ihx =>
    intro B S fuel listed a w hf hp hcl hS h
    cases fuel with
    | zero => simp [PX.len] at hf
    | succ fuel =>
      simp only [PX.len, Nat.add_le_add_iff_right] at hf
      have hf1 : t.len ≤ fuel := Nat.le_trans (Nat.le_trans (Nat.le_max_left _ _) (Nat.le_max_left _ _)) hf
      have hf2 : u.len ≤ fuel := Nat.le_trans (Nat.le_trans (Nat.le_max_right _ _) (Nat.le_max_left _ _)) hf
      have hf3 : v.len ≤ fuel := Nat.le_trans (Nat.le_trans (Nat.le_max_left _ _) (Nat.le_max_right _ _)) hf
      have hf4 : x.len ≤ fuel := Nat.le_trans (Nat.le_trans (Nat.le_max_right _ _) (Nat.le_max_right _ _)) hf
      simp only [PX.ok, Bool.and_eq_true] at hp
      have hr : Region.ready md ops listed = [i, j, k, m] := by simpa using hp.1.1.1.1
      refine ⟨(fun h0 => (by rw [hr] at h0; cases h0)), fun n hn => ?_⟩
      have hc := hcl.set hn
      rw [hr, List.mem_cons, List.mem_cons, List.mem_cons, List.mem_singleton] at hn
      rcases hn with rfl | rfl | rfl | rfl
      · exact px_step hS (fun S' a w hS' h' => iht B S' fuel _ a w hf1 hp.1.1.1.2 hc hS' h') h.1
      · exact px_step hS (fun S' a w hS' h' => ihu B S' fuel _ a w hf2 hp.1.1.2 hc hS' h') h.2.1
      · exact px_step hS (fun S' a w hS' h' => ihv B S' fuel _ a w hf3 hp.1.2 hc hS' h') h.2.2.1
      · exact px_step hS (fun S' a w hS' h' => ihx B S' fuel _ a w hf4 hp.2 hc hS' h') h.2.2.2
/-- The region, by a tree with walls. -/
theorem wp_region_px {id : Nat} (N : Nat) (B : List Nat) (S : World → Prop) (t : PX) (hm : P.follows .mixedOrders = true) (hs : Region.noSelect ops = true)
    (hp : t.ok .any ops N B (Array.replicate ops.size false) = true) (hn : decide (t.len ≤ ops.size) = true) (hQ : ∀ c d v a w, Q (.panic c) (Act.put a d v) w → Q (.panic c) a w) (hS : S w.drew)
    (h : t.wp P ops Q S a w.drew) : (Code.region id ops true).wp P Q a w :=
  wp_region_any hm (wpAny_of_G _ _ _ _ (px_sound .any N hs hQ t B S _ _ _ _ (of_decide_eq_true hn) hp (closed_none _ _ _) hS h))
end
end Go.Proofs.Ytmamcnhofgfolaa
namespace Go.Proofs.Ytmamcnhofgfolaa
open Go Go.RowKit
def kis (k : IntKind) (ds : List Int) : List Value := ds.map (Value.int k)
theorem kis_len (k : IntKind) (ds : List Int) : (kis k ds).length = ds.length := by simp [kis]
theorem kis_ones (k : IntKind) (ds : List Int) : Ones (kis k ds) := by
  intro v hv
  obtain ⟨x, _, rfl⟩ := List.mem_map.1 hv
  rfl
/-- Block g holds these numbers. -/
def ArK (k : IntKind) (w : World) (g : Nat) (T : TypeId) (ds : List Int) : Prop := Blk w g T (kis k ds)
section
variable {k : IntKind} {w w' : World} {g : Nat} {T : TypeId} {ds : List Int}
theorem ArK.lt (h : ArK k w g T ds) : g < w.heap.size := blk_lt h
theorem ArK.cell (h : ArK k w g T ds) (i : Nat) (hi : i < ds.length) : w.cell? ⟨g, i, none⟩ = some (.int k (ds[i]'hi)) := by
  rw [blk_cell h i]
  simp [kis, hi]
theorem ArK.cell' (h : ArK k w g T ds) (i : Nat) {x : Int} (hi : ds[i]? = some x) : w.cell? ⟨g, i, none⟩ = some (.int k x) := by
  obtain ⟨h1, rfl⟩ := List.getElem?_eq_some_iff.1 hi
  exact h.cell i h1
theorem ArK.frozen (h : ArK k w g T ds) (i : Nat) : w.frozen? ⟨g, i, none⟩ = false := blk_frozen h i
theorem ArK.set (h : ArK k w g T ds) (i : Nat) (x : Int) : ArK k (w.setCell ⟨g, i, none⟩ (.int k x)) g T (ds.set i x) := by
  have := blk_set h i (.int k x)
  unfold ArK Blk
  rw [this]
  simp [kis, List.map_set]
theorem ArK.keep (h : ArK k w g T ds) {S : Nat → Prop} (hk : Kp S w w') (hs : ¬ S g) : ArK k w' g T ds := blk_keep hk h hs
theorem ArK.kp0 (h : ArK k w g T ds) (hk : Kp0 w w') : ArK k w' g T ds := h.keep hk (fun h => h)
theorem ArK.other (h : ArK k w g T ds) {b i : Nat} (hb : b ≠ g) (v : Value) : ArK k (w.setCell ⟨b, i, none⟩ v) g T ds :=
  h.keep ((Kp.refl (fun c => c = b) w).setCell (fun _ => rfl) _) (fun e => hb e.symm)
theorem ArK.drew (h : ArK k w g T ds) : ArK k w.drew g T ds := h
theorem ark0 (w : World) (T : TypeId) (ds : List Int) : ArK k (w.alloc (.cells (kis k ds).toArray T)) w.heap.size T ds := heap_alloc_new w _
theorem ark1 (w : World) (o : Obj) (T : TypeId) (ds : List Int) : ArK k ((w.alloc o).alloc (.cells (kis k ds).toArray T)) (w.heap.size + 1) T ds := by
  have := ark0 (k := k) (w.alloc o) T ds
  rwa [show (w.alloc o).heap.size = w.heap.size + 1 from by simp] at this
theorem ark2 (w : World) (o o2 : Obj) (T : TypeId) (ds : List Int) : ArK k (((w.alloc o).alloc o2).alloc (.cells (kis k ds).toArray T)) (w.heap.size + 1 + 1) T ds := by
  have := ark0 (k := k) ((w.alloc o).alloc o2) T ds
  rwa [show ((w.alloc o).alloc o2).heap.size = w.heap.size + 1 + 1 from by simp] at this
theorem ark3 (w : World) (o o2 o3 : Obj) (T : TypeId) (ds : List Int) : ArK k ((((w.alloc o).alloc o2).alloc o3).alloc (.cells (kis k ds).toArray T)) (w.heap.size + 1 + 1 + 1) T ds := by
  have := ark0 (k := k) (((w.alloc o).alloc o2).alloc o3) T ds
  rwa [show (((w.alloc o).alloc o2).alloc o3).heap.size = w.heap.size + 1 + 1 + 1 from by simp] at this
end
theorem Kp.at {w wr : World} (h : Kp0 w wr) {b i : Nat} (hb : w.heap.size ≤ b) (v : Value) : Kp0 w (wr.setCell ⟨b, i, none⟩ v) :=
  h.setCell (p := ⟨b, i, none⟩) (fun hlt => absurd hlt (by simp; omega)) _
/-- The first n of m, the others of l. -/
def upTo (n : Nat) (l m : List Int) : List Int := m.take n ++ l.drop n
theorem upTo_step {l m : List Int} {n : Nat} (h : l.length = m.length) (hn : n < l.length) : (upTo n l m)[n]? = some (l[n]'hn) ∧ (upTo n l m).set n (m[n]'(h ▸ hn)) = upTo (n + 1) l m := by
  have h1 : (m.take n).length = n := by rw [List.length_take]; omega
  constructor
  · rw [upTo, List.getElem?_append_right (by omega), h1, Nat.sub_self, List.drop_eq_getElem_cons hn]
    rfl
  · rw [upTo, List.set_append_right _ _ (by omega), h1, Nat.sub_self, List.drop_eq_getElem_cons hn, List.set_cons_zero, upTo, List.take_succ_eq_append_getElem (by omega), List.append_assoc, List.singleton_append]
theorem upTo_zero (l m : List Int) : upTo 0 l m = l := by simp [upTo]
theorem upTo_all {l m : List Int} {n : Nat} (h : l.length ≤ n) (h2 : m.length ≤ n) : upTo n l m = m := by
  rw [upTo, List.take_of_length_le h2, List.drop_eq_nil_of_le h, List.append_nil]
theorem upTo_len {l m : List Int} {n : Nat} (h : l.length = m.length) (hn : n ≤ l.length) : (upTo n l m).length = l.length := by
  simp [upTo]
  omega
/-- A block's cells, returned. -/
theorem ret_blk {P : Program} {fn : Func} {R : Ending → World → Prop} {a : Act} {w : World} (t : Tmp) (T U : TypeId) (g : Nat) (cs : List Value) (d : TypeDesc) (hr : fn.results = #[.cell t T]) (hx : a.tmps.getD t undef = .pointer (some ⟨g, 0, none⟩))
    (hA : Blk w g U cs) (hu : P.underlying T = some d) (hd : d.isRow = true) (hi : (P.info? T).map (·.size) = some cs.length) (hdf : a.defers = []) (hR : R (.returned (.agg cs.toArray)) w) : bodyPost P fn R .ret a w := by
  refine ⟨hdf, _, ?_, hR⟩
  have := run_loadVar_mid (P := P) w g 0 T cs d hA.range hu hd hi
  rw [Array.getD_eq_getD_getElem?] at hx
  simp [results, hr, hx, asAddr, this]
end Go.Proofs.Ytmamcnhofgfolaa
namespace Go.Proofs.Ytmamcnhofgfolaa
open Go Go.RowKit
theorem run_index_cells {P : Program} {w : World} (t e : TypeId) (N : Nat) (k k' : IntKind) (cs : List Value) (n : Nat) (x : Value) (hx : cs[n]? = some x) (h : P.underlying t = some (.array N e)) (he : P.underlying e = some (.int k)) (hs : (sizeOf e).run P w = .ok 1 w) (hn : n < N) :
    (Instr.index t (.agg cs.toArray) (.int k' (n : Int))).run P w = .ok x w := by
  have h1 : (0 : Int) ≤ (n : Int) ∧ (n : Int) < (N : Int) := by omega
  have ha : (isAgg e).run P w = .ok false w := by simp [isAgg, run_underlying he, go_sem]
  simp [Instr.index, run_underlying h, asIntOf, hn, part, hx, hs, ha, go_sem]
end Go.Proofs.Ytmamcnhofgfolaa
namespace Go.Proofs.Ytmamcnhofgfolaa
open Go Go.RowKit
theorem Blk.set' {w : World} {g : Nat} {T : TypeId} {cs : List Value} (h : Blk w g T cs) (i : Nat) (v : Value) : Blk (w.setCell ⟨g, i, none⟩ v) g T (cs.set i v) := by
  have := blk_set h i v
  unfold Blk
  rw [this]
  simp
theorem Blk.cellV {w : World} {g : Nat} {T : TypeId} {cs : List Value} (h : Blk w g T cs) (i : Nat) {v : Value} (hv : cs[i]? = some v) : w.cell? ⟨g, i, none⟩ = some v := by
  rw [blk_cell h i]
  simpa using hv
theorem Blk.other' {w : World} {g b i : Nat} {T : TypeId} {cs : List Value} (h : Blk w g T cs) (hb : b ≠ g) (v : Value) : Blk (w.setCell ⟨b, i, none⟩ v) g T cs :=
  h.keep ((Kp.refl (fun c => c = b) w).setCell (fun _ => rfl) _) (fun e => hb e.symm)
theorem Blk.drew' {w : World} {g : Nat} {T : TypeId} {cs : List Value} (h : Blk w g T cs) : Blk w.drew g T cs := h
/-- The blocks from w's end on hold these. -/
def Rows' (w wr : World) (rs : List (TypeId × List Value)) : Prop := (∀ j T cs, rs[j]? = some (T, cs) → Blk wr (w.heap.size + j) T cs) ∧ Kp0 w wr
section
variable {w wr wx : World} {rs : List (TypeId × List Value)}
theorem Rows'.nil (w : World) : Rows' w w [] := ⟨fun j T cs h => by simp at h, Kp.refl _ _⟩
theorem Rows'.push (h : Rows' w wr rs) (hs : wr.heap.size = w.heap.size + rs.length) (T : TypeId) (cs : List Value) :
    Rows' w (wr.alloc (.cells cs.toArray T)) (rs ++ [(T, cs)]) ∧ (wr.alloc (.cells cs.toArray T)).heap.size = w.heap.size + (rs ++ [(T, cs)]).length := by
  refine ⟨⟨fun j T' cs' hj => ?_, h.2.alloc _⟩, by simp [hs]; omega⟩
  by_cases hl : j < rs.length
  · rw [List.getElem?_append_left hl] at hj
    exact (h.1 j T' cs' hj).kp0 ((Kp.refl _ _).alloc _)
  · rw [List.getElem?_append_right (by omega)] at hj
    have hj0 : j - rs.length = 0 := by
      have := (List.getElem?_eq_some_iff.1 hj).1
      simp at this
      omega
    rw [hj0] at hj
    simp at hj
    obtain ⟨rfl, rfl⟩ := hj
    have := blk0 wr T cs
    rw [hs, show rs.length = j by omega] at this
    exact this
theorem Rows'.kp (h : Rows' w wr rs) : Kp0 w wr := h.2
theorem Rows'.kp0 (h : Rows' w wr rs) (hk : Kp0 wr wx) : Rows' w wx rs := ⟨fun j T cs hj => (h.1 j T cs hj).kp0 hk, h.2.tr hk⟩
theorem Rows'.drew (h : Rows' w wr rs) : Rows' w wr.drew rs := h.kp0 (Kp.refl _ _).drew
theorem Rows'.blk (h : Rows' w wr rs) (j : Nat) {T : TypeId} {cs : List Value} (hj : rs[j]? = some (T, cs)) {g : Nat} (hg : g = w.heap.size + j) : Blk wr g T cs := by subst hg; exact h.1 j T cs hj
theorem Rows'.set (h : Rows' w wr rs) (j : Nat) {T : TypeId} {cs : List Value} (hj : rs[j]? = some (T, cs)) (i : Nat) (v : Value) {g : Nat} (hg : g = w.heap.size + j) : Rows' w (wr.setCell ⟨g, i, none⟩ v) (rs.set j (T, cs.set i v)) := by
  subst hg
  refine ⟨fun k T' cs' hk => ?_, h.2.at (by omega) _⟩
  rw [List.getElem?_set] at hk
  by_cases e : j = k
  · subst e
    rw [if_pos rfl, if_pos (List.getElem?_eq_some_iff.1 hj).1] at hk
    obtain ⟨rfl, rfl⟩ : T = T' ∧ cs.set i v = cs' := by simpa using hk
    exact (h.1 j T cs hj).set' i v
  · rw [if_neg e] at hk
    exact (h.1 k T' cs' hk).other' (by omega) v
theorem Rows'.store (h : Rows' w wr rs) (j : Nat) {T : TypeId} {old cs : List Value} (hj : rs[j]? = some (T, old)) {g : Nat} (hg : g = w.heap.size + j) (hA : Blk wx g T cs) (hS : Kp (fun b => b = g) wr wx) : Rows' w wx (rs.set j (T, cs)) := by
  subst hg
  refine ⟨fun k T' cs' hk => ?_, h.2.trans hS (fun _ _ h => h) (fun i hi e => by omega)⟩
  rw [List.getElem?_set] at hk
  by_cases e : j = k
  · subst e
    rw [if_pos rfl, if_pos (List.getElem?_eq_some_iff.1 hj).1] at hk
    obtain ⟨rfl, rfl⟩ : T = T' ∧ cs = cs' := by simpa using hk
    exact hA
  · rw [if_neg e] at hk
    exact (h.1 k T' cs' hk).keep hS (fun e2 => e (by omega))
end
theorem rows1 (w : World) (T0 : TypeId) (c0 : List Value) : Rows' w (w.alloc (.cells c0.toArray T0)) [(T0, c0)] := ((Rows'.nil w).push rfl T0 c0).1
theorem rows2 (w : World) (T0 : TypeId) (c0 : List Value) (T1 : TypeId) (c1 : List Value) : Rows' w ((w.alloc (.cells c0.toArray T0)).alloc (.cells c1.toArray T1)) [(T0, c0), (T1, c1)] :=
  ((rows1 w T0 c0).push (by simp) T1 c1).1
theorem rows3 (w : World) (T0 : TypeId) (c0 : List Value) (T1 : TypeId) (c1 : List Value) (T2 : TypeId) (c2 : List Value) : Rows' w (((w.alloc (.cells c0.toArray T0)).alloc (.cells c1.toArray T1)).alloc (.cells c2.toArray T2)) [(T0, c0), (T1, c1), (T2, c2)] :=
  ((rows2 w T0 c0 T1 c1).push (by simp) T2 c2).1
theorem rows4 (w : World) (T0 : TypeId) (c0 : List Value) (T1 : TypeId) (c1 : List Value) (T2 : TypeId) (c2 : List Value) (T3 : TypeId) (c3 : List Value) : Rows' w ((((w.alloc (.cells c0.toArray T0)).alloc (.cells c1.toArray T1)).alloc (.cells c2.toArray T2)).alloc (.cells c3.toArray T3)) [(T0, c0), (T1, c1), (T2, c2), (T3, c3)] :=
  ((rows3 w T0 c0 T1 c1 T2 c2).push (by simp) T3 c3).1
theorem kis_get {k : IntKind} {ds : List Int} {n : Nat} {x : Int} (h : ds[n]? = some x) : (kis k ds)[n]? = some (.int k x) := by simp [kis, h]
theorem kis_set (k : IntKind) (ds : List Int) (n : Nat) (x : Int) : (kis k ds).set n (.int k x) = kis k (ds.set n x) := by simp [kis, List.map_set]
theorem run_load_mid {P : Program} {op : Oper} {a : Act} {w : World} (ty : TypeId) (x : Operand) (ho : op.op = .load ty x)
    (g o : Nat) (cs : List Value) (hx : a.eval x = .pointer (some ⟨g, o, none⟩)) (hA : w.rangeAt g o cs) (d : TypeDesc)
    (hu : P.underlying ty = some d) (hd : d.isRow = true) (hi : (P.info? ty).map (·.size) = some cs.length) : (execOp a.eval op).run P w = .ok (.value (.agg cs.toArray)) w := by
  unfold execOp
  simp only [ho, hx, Instr.loadAt, Instr.sureAddr, Sem.run_bind, Sem.run_pure, Result.andThen_ok, run_loadVar_mid w g o ty cs d hA hu hd hi]
theorem wl_quiet_val {P : Program} {ops : Array Oper} {rest : List Oper} {op : Oper} {a : Act} {w : World} {Q : Exit → Act → World → Prop} {v : Value} (hgd : op.guard = none)
    (hv : ∀ w, (execOp a.eval op).run P w = .ok (.value v) w) (h : wpList P ops Q rest (a.put op.dst v) w) : wpList P ops Q (op :: rest) a w :=
  wpList_plain hgd fun _ hK => by
    unfold Oper.wp
    rw [hv w]
    exact hK _ _ h
/-- A part of a block. -/
theorem Blk.part {w : World} {g : Nat} {T : TypeId} {cs ds : List Value} (h : Blk w g T cs) (o : Nat) (hd : ds = (cs.drop o).take ds.length) : w.rangeAt g o ds := by
  intro j v hv
  rw [blk_cell h]
  rw [hd] at hv
  rw [List.getElem?_take, List.getElem?_drop] at hv
  split at hv
  · simpa using hv
  · cases hv
end Go.Proofs.Ytmamcnhofgfolaa
namespace Go.Proofs.Ytmamcnhofgfolaa
open Go Go.RowKit
/-- These blocks hold these cells; all of them are apart, and lie behind w. -/
structure Bks (w wr : World) (bs : List (Nat × TypeId × List Value)) : Prop where
  blk : ∀ (j g : Nat) (T : TypeId) (cs : List Value), bs[j]? = some (g, T, cs) → Blk wr g T cs
  ne : ∀ (i j : Nat) (x y : Nat × TypeId × List Value), bs[i]? = some x → bs[j]? = some y → i ≠ j → x.1 ≠ y.1
  ge : ∀ (j : Nat) (x : Nat × TypeId × List Value), bs[j]? = some x → w.heap.size ≤ x.1
  kp : Kp0 w wr
section
variable {w wr wx : World} {bs : List (Nat × TypeId × List Value)}
theorem Bks.nil (w : World) : Bks w w [] := ⟨by simp, by simp, by simp, Kp.refl _ _⟩
theorem Bks.kp0 (h : Bks w wr bs) (hk : Kp0 wr wx) : Bks w wx bs := ⟨fun j g T cs hj => (h.blk j g T cs hj).kp0 hk, h.ne, h.ge, h.kp.tr hk⟩
theorem Bks.drew (h : Bks w wr bs) : Bks w wr.drew bs := h.kp0 (Kp.refl _ _).drew
theorem Bks.at (h : Bks w wr bs) (j : Nat) {g : Nat} {T : TypeId} {cs : List Value} (hj : bs[j]? = some (g, T, cs)) : Blk wr g T cs := h.blk j g T cs hj
theorem Bks.push (h : Bks w wr bs) (T : TypeId) (cs : List Value) {g : Nat} (hg : g = wr.heap.size) : Bks w (wr.alloc (.cells cs.toArray T)) (bs ++ [(g, T, cs)]) := by
  subst hg
  have hlast : ∀ (j : Nat) (x : Nat × TypeId × List Value), (bs ++ [(wr.heap.size, T, cs)])[j]? = some x → (bs[j]? = some x ∧ x.1 < wr.heap.size) ∨ (j = bs.length ∧ x = (wr.heap.size, T, cs)) := by
    intro j x hj
    by_cases hl : j < bs.length
    · rw [List.getElem?_append_left hl] at hj
      exact .inl ⟨hj, (h.blk j x.1 x.2.1 x.2.2 hj).lt⟩
    · rw [List.getElem?_append_right (by omega)] at hj
      have hj0 : j - bs.length = 0 := by
        have := (List.getElem?_eq_some_iff.1 hj).1
        simp at this
        omega
      rw [hj0] at hj
      simp at hj
      exact .inr ⟨by omega, hj.symm⟩
  refine ⟨fun j g T' cs' hj => ?_, fun i j x y hi hj hne => ?_, fun j x hj => ?_, h.kp.alloc _⟩
  · rcases hlast j _ hj with ⟨h1, _⟩ | ⟨_, h1⟩
    · exact (h.blk j g T' cs' h1).kp0 ((Kp.refl _ _).alloc _)
    · simp only [Prod.mk.injEq] at h1
      obtain ⟨rfl, rfl, rfl⟩ := h1
      exact blk0 wr _ _
  · rcases hlast i _ hi with ⟨h1, l1⟩ | ⟨e1, h1⟩ <;> rcases hlast j _ hj with ⟨h2, l2⟩ | ⟨e2, h2⟩
    · exact h.ne i j x y h1 h2 hne
    · subst h2; exact Nat.ne_of_lt l1
    · subst h1; exact fun e => absurd l2 (by rw [← e]; exact Nat.lt_irrefl _)
    · omega
  · rcases hlast j _ hj with ⟨h1, _⟩ | ⟨_, h1⟩
    · exact h.ge j x h1
    · subst h1; exact h.kp.size
theorem Bks.store (h : Bks w wr bs) (j : Nat) {g : Nat} {T : TypeId} {old cs : List Value} (hj : bs[j]? = some (g, T, old)) (hA : Blk wx g T cs) (hS : Kp (fun b => b = g) wr wx) : Bks w wx (bs.set j (g, T, cs)) := by
  have hjl := (List.getElem?_eq_some_iff.1 hj).1
  have hget : ∀ (k : Nat) (x : Nat × TypeId × List Value), (bs.set j (g, T, cs))[k]? = some x → (k = j ∧ x = (g, T, cs)) ∨ (k ≠ j ∧ bs[k]? = some x) := by
    intro k x hk
    rw [List.getElem?_set] at hk
    by_cases e : j = k
    · rw [if_pos e, if_pos hjl] at hk
      exact .inl ⟨e.symm, (Option.some.inj hk).symm⟩
    · rw [if_neg e] at hk
      exact .inr ⟨fun e2 => e e2.symm, hk⟩
  refine ⟨fun k g' T' cs' hk => ?_, fun i k x y hi hk hne => ?_, fun k x hk => ?_, ?_⟩
  · rcases hget k _ hk with ⟨_, h1⟩ | ⟨e, h1⟩
    · simp only [Prod.mk.injEq] at h1
      obtain ⟨rfl, rfl, rfl⟩ := h1
      exact hA
    · exact (h.blk k g' T' cs' h1).keep hS (fun e2 => h.ne k j _ _ h1 hj e e2)
  · rcases hget i _ hi with ⟨e1, rfl⟩ | ⟨e1, h1⟩ <;> rcases hget k _ hk with ⟨e2, rfl⟩ | ⟨e2, h2⟩
    · omega
    · exact h.ne j k (g, T, old) y hj h2 (fun e => e2 e.symm)
    · exact h.ne i j x (g, T, old) h1 hj e1
    · exact h.ne i k _ _ h1 h2 hne
  · rcases hget k _ hk with ⟨_, rfl⟩ | ⟨_, h1⟩
    · exact h.ge j (g, T, old) hj
    · exact h.ge k _ h1
  · have hge := h.ge j (g, T, old) hj
    exact h.kp.trans hS (fun _ _ h => h) (fun i hi e => by subst e; exact absurd hi (Nat.not_lt.2 hge))
theorem Bks.set (h : Bks w wr bs) (j : Nat) {g : Nat} {T : TypeId} {cs : List Value} (hj : bs[j]? = some (g, T, cs)) (i : Nat) (v : Value) : Bks w (wr.setCell ⟨g, i, none⟩ v) (bs.set j (g, T, cs.set i v)) :=
  h.store j hj ((h.at j hj).set' i v) ((Kp.refl (fun b => b = g) wr).setCell (p := ⟨g, i, none⟩) (fun _ => rfl) _)
theorem Bks.take (h : Bks w wr bs) (n : Nat) : Bks w wr (bs.take n) := by
  have hget : ∀ (k : Nat) (x : Nat × TypeId × List Value), (bs.take n)[k]? = some x → bs[k]? = some x := by
    intro k x hk
    rw [List.getElem?_take] at hk
    split at hk
    · exact hk
    · cases hk
  exact ⟨fun j g T cs hj => h.blk j g T cs (hget _ _ hj), fun i j x y hi hj => h.ne i j x y (hget _ _ hi) (hget _ _ hj), fun j x hj => h.ge j x (hget _ _ hj), h.kp⟩
end
end Go.Proofs.Ytmamcnhofgfolaa
namespace Go.Proofs.Ytmamcnhofgfolaa
open Go Go.RowKit

section
variable {H : Type} {enc : TypeId × Value → H} {P : Program} {w : World} {base : Nat} {spare : Nat → Bool} {held : Bool}
/-- The reach, datum by datum. -/
theorem reach_at {ts : List TypeId} {ds : List (DataW H)} (hsz : (DataW.weightsEach P ts ds).all (· ≤ reachBytes) = true) {j : Nat} {t : TypeId} {d : DataW H} (ht : ts[j]? = some t) (hd : ds[j]? = some d) : ∀ n ∈ d.weights P t, n ≤ reachBytes := fun n hn => by
  have := List.all_eq_true.1 hsz _ (DataW.weights_mem_each ht hd n hn)
  simpa using this

/-- A []byte that came in. -/
theorem came_bytes {t e : TypeId} {a : Option Addr} {len cap : Nat} {d : DataW H} {ps : List MemPlace} (ht : P.underlying t = some (.slice e)) (he : P.underlying e = some (.int .u8)) (hc : P.cellsOf e = 1) (hb : P.bytesOf e = 1)
    (h : DataW.Trod enc P w base (fun _ => true) held t (.slice a len cap) d ps) (hz : ∀ n ∈ d.weights P t, n ≤ reachBytes) : ∃ l : List UInt8, l.length = len ∧ l.length ≤ 140737488351232 ∧ Rd w (.slice a len cap) (bys l) := by
  obtain ⟨fuel, hf⟩ := h
  rcases Go.ChangeShapes.open_ints ht he hc hf with ⟨hcs, _⟩ | ⟨x, l, c, zs, hcs, _, hl, hm, hzl, hx, hcell, hwz⟩
  · simp [Value.cells] at hcs
    obtain ⟨rfl, rfl, rfl⟩ := hcs
    obtain ⟨l, h1, h2⟩ := rd_row (w := w) (zs := []) (.inl ⟨rfl, rfl, rfl, rfl⟩)
    exact ⟨l, h1, by omega, h2⟩
  · simp [Value.cells] at hcs
    obtain ⟨rfl, rfl, rfl⟩ := hcs
    obtain ⟨m, h1, h2⟩ := rd_row (zs := zs) (.inr ⟨_, rfl, hl, hm, by simpa using hzl, hcell, hwz⟩)
    refine ⟨m, h1, ?_, h2⟩
    simp only [Prod.mk.injEq] at hx
    obtain ⟨rfl, _⟩ := hx
    have := hz _ (by simp only [DataW.weights, ht, List.mem_cons]; exact .inl rfl)
    rw [hb] at this
    simp only [if_true] at hzl
    simp only [Go.ChangeShapes.lits, List.length_map, List.length_take, List.length_drop, reachBytes] at this
    omega

/-- A []string that came in. -/
theorem came_strs {t e : TypeId} {a : Option Addr} {len cap : Nat} {d : DataW H} {ps : List MemPlace} (ht : P.underlying t = some (.slice e)) (he : P.underlying e = some .string) (hc : P.cellsOf e = 1)
    (h : DataW.Trod enc P w base (fun _ => true) held t (.slice a len cap) d ps) (hz : ∀ n ∈ d.weights P t, n ≤ reachBytes) : ∃ l : List ByteArray, l.length = len ∧ (∀ x ∈ l, x.size ≤ 140737488351232) ∧ Rd w (.slice a len cap) (strs l) := by
  obtain ⟨fuel, hf⟩ := h
  rcases Go.ChangeShapes.open_strings ht he hc hf with ⟨hcs, _⟩ | ⟨x, l, c, ss, hcs, _, hl, hm, hzl, hx, hcell, hws⟩
  · simp [Value.cells] at hcs
    obtain ⟨rfl, rfl, rfl⟩ := hcs
    exact ⟨[], rfl, by simp, Rd.nil w⟩
  · simp [Value.cells] at hcs
    obtain ⟨rfl, rfl, rfl⟩ := hcs
    simp only [if_true] at hzl
    simp only [Prod.mk.injEq] at hx
    obtain ⟨rfl, _⟩ := hx
    refine ⟨ss.take len, by rw [List.length_take]; omega, fun y hy => ?_, some x, cap, by rw [strs_len, List.length_take, Nat.min_eq_left (by omega)], by rw [strs_len, List.length_take]; omega, hm, by simp, fun ad e' i u hu => ?_⟩
    · have hall : ∀ (A : List ByteArray) (y : ByteArray), y ∈ A → y.size ∈ DataW.weightsAll P e (Go.ChangeShapes.strs (H := H) A) := by
        intro A
        induction A with
        | nil => intro y h; cases h
        | cons z A ih =>
          intro y h
          simp only [Go.ChangeShapes.strs, List.map_cons, DataW.weightsAll, DataW.weights, List.mem_append, List.mem_singleton]
          rcases List.mem_cons.1 h with rfl | h
          · left; rw [Array.length_toList]; rfl
          · exact .inr (ih y h)
      exact hz _ (by simp only [DataW.weights, ht, List.mem_cons, List.mem_append]; exact .inr (.inl (hall _ _ hy)))
    · cases e'
      have hi : i < len := by
        have := (List.getElem?_eq_some_iff.1 hu).1
        rw [strs_len, List.length_take] at this
        omega
      have hs : i < ss.length := by omega
      rw [hcell i hs, ← hu]
      simp only [strs, List.getElem?_map, List.getElem?_take, if_pos hi, List.getElem?_eq_getElem hs, Option.map_some]
      congr 2
      rw [List.getD_eq_getElem?_getD, List.getElem?_eq_getElem hs]
      rfl
/-- A text that came in. -/
theorem came_str {t : TypeId} {s : ByteArray} (hz : ∀ n ∈ DataW.weights P t (.lit (H := H) (.string s.data.toList)), n ≤ reachBytes) : s.size ≤ 140737488351232 := by
  have := hz s.size (by simp only [DataW.weights, List.mem_singleton]; rw [Array.length_toList]; rfl)
  exact this
end
end Go.Proofs.Ytmamcnhofgfolaa
namespace Go.Proofs.Ytmamcnhofgfolaa
open Go Go.RowKit
def ints (l : List Int) : List Value := l.map (Value.int .i64)
theorem ints_len (l : List Int) : (ints l).length = l.length := by simp [ints]
theorem Rd.shapeI {w : World} {v : Value} {l : List Int} (h : Rd w v (ints l)) : ∃ ao cap, v = .slice ao l.length cap ∧ l.length ≤ cap ∧ cap ≤ 9223372036854775807 ∧ (ao = none → cap = 0) := by
  obtain ⟨ao, cap, h0, h1, h2, h3⟩ := h.shape
  rw [ints_len] at h0 h1
  exact ⟨ao, cap, h0, h1, h2, h3⟩
theorem Rd.posI {w : World} {v : Value} {l : List Int} (h : Rd w v (ints l)) (hx : 0 < l.length) :
    ∃ b o cap, v = .slice (some ⟨b, o, none⟩) l.length cap ∧ l.length ≤ cap ∧ cap ≤ 9223372036854775807 ∧ ∀ i (hi : i < l.length), w.cell? ⟨b, o + i, none⟩ = some (.int .i64 (l[i]'hi)) := by
  obtain ⟨b, o, cap, h0, h1, h2, h3⟩ := h.pos (by rw [ints_len]; exact hx)
  rw [ints_len] at h0 h1
  refine ⟨b, o, cap, h0, h1, h2, fun i hi => ?_⟩
  rw [h3 i (by rw [ints_len]; exact hi)]
  simp [ints]
section
variable {H : Type} {enc : TypeId × Value → H} {P : Program} {w : World} {base : Nat} {spare : Nat → Bool} {held : Bool}
theorem came_ints {t e : TypeId} {a : Option Addr} {len cap : Nat} {d : DataW H} {ps : List MemPlace} (ht : P.underlying t = some (.slice e)) (he : P.underlying e = some (.int .i64)) (hc : P.cellsOf e = 1)
    (h : DataW.Trod enc P w base (fun _ => true) held t (.slice a len cap) d ps) : ∃ l : List Int, l.length = len ∧ Rd w (.slice a len cap) (ints l) := by
  obtain ⟨fuel, hf⟩ := h
  rcases Go.ChangeShapes.open_ints ht he hc hf with ⟨hcs, _⟩ | ⟨x, l, c, zs, hcs, _, hl, hm, hzl, hx, hcell, hwz⟩
  · simp [Value.cells] at hcs
    obtain ⟨rfl, rfl, rfl⟩ := hcs
    exact ⟨[], rfl, Rd.nil w⟩
  · simp [Value.cells] at hcs
    obtain ⟨rfl, rfl, rfl⟩ := hcs
    simp only [if_true] at hzl
    refine ⟨zs.take len, by rw [List.length_take]; omega, some x, cap, by rw [ints_len, List.length_take, Nat.min_eq_left (by omega)], by rw [ints_len, List.length_take]; omega, hm, by simp, fun ad e' i u hu => ?_⟩
    cases e'
    have hi : i < len := by
      have := (List.getElem?_eq_some_iff.1 hu).1
      rw [ints_len, List.length_take] at this
      omega
    have hs : i < zs.length := by omega
    rw [hcell i hs, ← hu]
    simp only [ints, List.getElem?_map, List.getElem?_take, if_pos hi, List.getElem?_eq_getElem hs, Option.map_some]
    congr 2
    rw [List.getD_eq_getElem?_getD, List.getElem?_eq_getElem hs]
    rfl
theorem own_came {t e : TypeId} {a : Option Addr} {len cap : Nat} (ht : P.underlying t = some (.slice e)) (h : Value.okWide P w .any base t (.slice a len cap)) : ∀ g, (Value.slice a len cap).ownBlock = some g → g < w.heap.size := by
  intro g hg
  cases a with
  | none => simp [Value.ownBlock] at hg
  | some ad =>
    unfold Value.okWide at h
    rw [ht] at h
    simp only [Cell.okWide, Cell.ok, ht, World.has] at h
    obtain ⟨_, _, _, _, row, cells, hs, _⟩ := h
    have e : g = ad.block := by simp [Value.ownBlock] at hg; omega
    subst e
    unfold World.shape? at hs
    cases hh : w.heap[ad.block]? with
    | none => rw [hh] at hs; simp at hs
    | some o => exact (Array.getElem?_eq_some_iff.1 hh).1
end
end Go.Proofs.Ytmamcnhofgfolaa
namespace Go.Proofs.Ytmamcnhofgfolaa
open Go Go.RowKit
def byteOf1 : Value → UInt8
  | .int _ z => UInt8.ofNat z.toNat
  | _ => 0
theorem byteOf1_ok {z : Int} (h : 0 ≤ z ∧ z ≤ 255) : Value.int .u8 ((byteOf1 (.int .u8 z)).toNat : Int) = .int .u8 z := by
  rw [byteOf1, UInt8.toNat_ofNat']
  congr 1
  omega
theorem came_arr1 {H : Type} {enc : TypeId × Value → H} {P : Program} {w : World} {sp : Nat → Bool} {held : Bool} {r : Reach} {b0 : Nat} {t f : TypeId} {n : Nat} {v : Value} {d : DataW H} {ps : List MemPlace}
    (ht : P.underlying t = some (.array n f)) (hf : P.underlying f = some (.int .u8)) (c1 : P.cellsOf f = 1) (c2 : P.cellsOf t = n)
    (hval : Value.okWide P w r b0 t v) (h : DataW.Trod enc P w 0 sp held t v d ps) : ∃ L : List UInt8, L.length = n ∧ v = .agg (bys L).toArray := by
  simp only [Value.okWide, ht] at hval
  obtain ⟨cs, rfl, hsz, _⟩ := hval
  obtain ⟨k, hk⟩ := h
  obtain ⟨xs, k1, rfl, _, hl, hxl, hx⟩ := DataW.trod_array ht hk
  rw [c2] at hl
  simp only [Value.cells] at hl hx
  have all : ∀ i, i < n → ∃ z : Int, cs.toList[i]? = some (.int .u8 z) ∧ 0 ≤ z ∧ z ≤ 255 := by
    intro i hi
    have h1 := hx i hi
    rw [c1, List.getElem?_eq_getElem (show i < xs.length by omega)] at h1
    obtain ⟨z, hc, _, hw⟩ := DataW.trod_int hf h1
    refine ⟨z, ?_, bounds_u8 hw⟩
    have h3 := congrArg (fun l : List Value => l[0]?) hc
    simp only [List.getElem?_cons_zero, Nat.mul_one] at h3
    rw [List.getElem?_take, if_pos (by omega), List.getElem?_drop] at h3
    rw [← h3]
    congr 1
  refine ⟨cs.toList.map byteOf1, by rw [List.length_map]; exact hl, ?_⟩
  congr 1
  apply Array.ext'
  simp only [bys, List.map_map]
  refine (List.ext_getElem? fun i => ?_)
  by_cases hi : i < n
  · obtain ⟨z, hz, hb⟩ := all i hi
    rw [List.getElem?_map, hz, Option.map_some]
    exact congrArg some (byteOf1_ok hb).symm
  · rw [List.getElem?_eq_none (by omega), List.getElem?_eq_none (by simp at hl ⊢; omega)]
end Go.Proofs.Ytmamcnhofgfolaa
namespace Go.Proofs.Ytmamcnhofgfolaa
open Go Go.RowKit
/-- Pairs of texts as cells. -/
def prs : List (List UInt8 × List UInt8) → List Value
  | [] => []
  | p :: l => .string (S p.1) :: .string (S p.2) :: prs l
theorem prs_len (l : List (List UInt8 × List UInt8)) : (prs l).length = l.length * 2 := by
  induction l with
  | nil => rfl
  | cons p l ih => simp only [prs, List.length_cons, ih]; omega
theorem prs_app (a b : List (List UInt8 × List UInt8)) : prs (a ++ b) = prs a ++ prs b := by
  induction a with
  | nil => rfl
  | cons p l ih => simp only [prs, List.cons_append, ih]
theorem prs_take (l : List (List UInt8 × List UInt8)) (k : Nat) : (prs l).take (k * 2) = prs (l.take k) := by
  induction l generalizing k with
  | nil => simp [prs]
  | cons p l ih =>
    cases k with
    | zero => simp [prs]
    | succ k =>
      rw [show (k + 1) * 2 = k * 2 + 1 + 1 by omega]
      simp only [prs, List.take_succ_cons, ih]
theorem prs_get (l : List (List UInt8 × List UInt8)) (i : Nat) (h : i < l.length) : (prs l)[i * 2]? = some (.string (S (l[i]).1)) ∧ (prs l)[i * 2 + 1]? = some (.string (S (l[i]).2)) := by
  induction l generalizing i with
  | nil => simp at h
  | cons p l ih =>
    cases i with
    | zero => exact ⟨rfl, rfl⟩
    | succ i =>
      rw [show (i + 1) * 2 = i * 2 + 1 + 1 by omega]
      simp only [prs, List.getElem?_cons_succ, List.getElem_cons_succ]
      exact ih i (by simpa using h)
/-- A slice whose n elements read as these cells, k each; its block is one of F. -/
def RdF (F : Nat → Prop) (w : World) (k : Nat) (v : Value) (n : Nat) (xs : List Value) : Prop :=
  ∃ ao cap, v = .slice ao n cap ∧ xs.length = n * k ∧ n ≤ cap ∧ cap ≤ 9223372036854775807 ∧ (ao = none → cap = 0) ∧ ∀ ad, ao = some ad → ∀ i u, xs[i]? = some u → F ad.block ∧ w.cell? (ad.add i) = some u
section
variable {F G : Nat → Prop} {w w1 : World} {k n : Nat} {v : Value} {xs : List Value}
theorem RdF.mono (h : RdF F w k v n xs) (hF : ∀ i, F i → G i) : RdF G w k v n xs := by
  obtain ⟨ao, cap, h1, h2, h3, h4, h5, h6⟩ := h
  exact ⟨ao, cap, h1, h2, h3, h4, h5, fun ad e i u hu => ⟨hF _ (h6 ad e i u hu).1, (h6 ad e i u hu).2⟩⟩
theorem RdF.keep (h : RdF F w k v n xs) {S : Nat → Prop} (hk : Kp S w w1) (hs : ∀ i, F i → ¬ S i) : RdF F w1 k v n xs := by
  obtain ⟨ao, cap, h1, h2, h3, h4, h5, h6⟩ := h
  exact ⟨ao, cap, h1, h2, h3, h4, h5, fun ad e i u hu => ⟨(h6 ad e i u hu).1, hk.cell (h6 ad e i u hu).2 (by rw [add_block]; exact hs _ (h6 ad e i u hu).1)⟩⟩
theorem RdF.of_own {B e : Nat} (h : w.ownsRow B e k v n xs) (hF : ∀ g, v.ownBlock = some g → F g) : RdF F w k v n xs := by
  rcases h.2 with ⟨rfl, h0⟩ | ⟨g, cap, cur, rfl, hb, hg, h1, h2, h3, h4⟩
  · subst h0
    exact ⟨none, 0, rfl, h.1, Nat.le_refl _, by decide, fun _ => rfl, fun ad e => by cases e⟩
  · exact ⟨some ⟨g, 0, none⟩, cap, rfl, h.1, h1, h2, by simp, fun ad e i u hu => by cases e; exact ⟨hF g rfl, h.cells (g := g) rfl i u hu⟩⟩
theorem RdF.nil (F : Nat → Prop) (w : World) (k : Nat) : RdF F w k (.slice none 0 0) 0 [] := ⟨none, 0, rfl, by simp, Nat.le_refl _, by decide, fun _ => rfl, fun ad e => by cases e⟩
theorem RdF.sl (h : RdF F w k v n xs) : ∃ ao cap, v = .slice ao n cap ∧ n ≤ cap ∧ cap ≤ 9223372036854775807 := by
  obtain ⟨ao, cap, h1, _, h3, h4, _⟩ := h
  exact ⟨ao, cap, h1, h3, h4⟩
end
mutual
/-- The five cells c0 .. c4 read as this element; all that it leads to lies in F. -/
def ElV (F : Nat → Prop) (w : World) : PE → Value → Value → Value → Value → Value → Prop
  | .mk sp nm a tx ks, c0, c1, c2, c3, c4 => c0 = .string (S sp) ∧ c1 = .string (S nm) ∧ RdF F w 2 c2 a.length (prs a) ∧ c3 = .string (S tx) ∧ ∃ cs, RdF F w 5 c4 ks.length cs ∧ ElsV F w ks cs
def ElsV (F : Nat → Prop) (w : World) : List PE → List Value → Prop
  | [], cs => cs = []
  | e :: es, cs => ∃ c0 c1 c2 c3 c4 rest, cs = c0 :: c1 :: c2 :: c3 :: c4 :: rest ∧ ElV F w e c0 c1 c2 c3 c4 ∧ ElsV F w es rest
end
mutual
theorem ElV.keep {F G : Nat → Prop} {w w1 : World} {S : Nat → Prop} (hk : Kp S w w1) (hs : ∀ i, F i → ¬ S i) (hF : ∀ i, F i → G i) : ∀ (e : PE) (c0 c1 c2 c3 c4 : Value), ElV F w e c0 c1 c2 c3 c4 → ElV G w1 e c0 c1 c2 c3 c4
  | .mk sp nm a tx ks, c0, c1, c2, c3, c4, h => by
    unfold ElV at h ⊢
    obtain ⟨h0, h1, h2, h3, cs, h4, h5⟩ := h
    exact ⟨h0, h1, (h2.keep hk hs).mono hF, h3, cs, (h4.keep hk hs).mono hF, ElsV.keep hk hs hF ks cs h5⟩
theorem ElsV.keep {F G : Nat → Prop} {w w1 : World} {S : Nat → Prop} (hk : Kp S w w1) (hs : ∀ i, F i → ¬ S i) (hF : ∀ i, F i → G i) : ∀ (es : List PE) (cs : List Value), ElsV F w es cs → ElsV G w1 es cs
  | [], cs, h => by unfold ElsV at h ⊢; exact h
  | e :: es, cs, h => by
    unfold ElsV at h ⊢
    obtain ⟨c0, c1, c2, c3, c4, rest, h1, h2, h3⟩ := h
    exact ⟨c0, c1, c2, c3, c4, rest, h1, ElV.keep hk hs hF e _ _ _ _ _ h2, ElsV.keep hk hs hF es rest h3⟩
end
theorem ElsV.len {F : Nat → Prop} {w : World} : ∀ (es : List PE) (cs : List Value), ElsV F w es cs → cs.length = es.length * 5
  | [], cs, h => by unfold ElsV at h; subst h; rfl
  | e :: es, cs, h => by
    unfold ElsV at h
    obtain ⟨c0, c1, c2, c3, c4, rest, rfl, _, h3⟩ := h
    have := ElsV.len es rest h3
    simp only [List.length_cons, this]
    omega
theorem ElsV.snoc {F : Nat → Prop} {w : World} {e : PE} {c0 c1 c2 c3 c4 : Value} (he : ElV F w e c0 c1 c2 c3 c4) : ∀ (es : List PE) (cs : List Value), ElsV F w es cs → ElsV F w (es ++ [e]) (cs ++ [c0, c1, c2, c3, c4])
  | [], cs, h => by
    unfold ElsV at h
    subst h
    rw [List.nil_append, List.nil_append]
    unfold ElsV
    exact ⟨c0, c1, c2, c3, c4, [], rfl, he, by unfold ElsV; rfl⟩
  | e' :: es, cs, h => by
    unfold ElsV at h
    obtain ⟨d0, d1, d2, d3, d4, rest, rfl, h1, h2⟩ := h
    rw [List.cons_append]
    unfold ElsV
    exact ⟨d0, d1, d2, d3, d4, rest ++ [c0, c1, c2, c3, c4], rfl, h1, ElsV.snoc he es rest h2⟩
/-- The cells of the one at place i. -/
theorem ElsV.get {F : Nat → Prop} {w : World} : ∀ (es : List PE) (cs : List Value), ElsV F w es cs → ∀ (i : Nat) (h : i < es.length), ∃ c0 c1 c2 c3 c4, cs[i * 5]? = some c0 ∧ cs[i * 5 + 1]? = some c1 ∧ cs[i * 5 + 2]? = some c2 ∧ cs[i * 5 + 3]? = some c3 ∧ cs[i * 5 + 4]? = some c4 ∧ ElV F w (es[i]) c0 c1 c2 c3 c4
  | [], cs, h, i, hi => by simp at hi
  | e :: es, cs, h, i, hi => by
    unfold ElsV at h
    obtain ⟨c0, c1, c2, c3, c4, rest, rfl, h2, h3⟩ := h
    cases i with
    | zero => exact ⟨c0, c1, c2, c3, c4, rfl, rfl, rfl, rfl, rfl, h2⟩
    | succ i =>
      obtain ⟨d0, d1, d2, d3, d4, g0, g1, g2, g3, g4, g5⟩ := ElsV.get es rest h3 i (by simpa using hi)
      refine ⟨d0, d1, d2, d3, d4, ?_⟩
      rw [show (i + 1) * 5 = i * 5 + 1 + 1 + 1 + 1 + 1 by omega]
      simp only [List.getElem?_cons_succ, List.getElem_cons_succ, show ∀ j, i * 5 + 1 + 1 + 1 + 1 + 1 + j = (i * 5 + j) + 1 + 1 + 1 + 1 + 1 from fun j => by omega]
      exact ⟨g0, g1, g2, g3, g4, g5⟩
end Go.Proofs.Ytmamcnhofgfolaa
namespace Go.Proofs.Ytmamcnhofgfolaa
open Go Go.RowKit
section
variable {P : Program} {w : World} {ops : Array Oper} {rest : List Oper} {o : Oper} {a : Act} {Q : Exit → Act → World → Prop}
theorem run_append_k (t ty e size bytes : Nat) (z : Value) (ht : P.underlying t = some (.slice e)) (hi : (P.info? e).map (fun i => (i.zero, i.size, i.bytes)) = some (some z, size, bytes)) (hz : z.cells.size = size) (hsz : 0 < size)
    {B n : Nat} {v : Value} {xs : List Value} (hown : w.ownsRow B e size v n xs) (ad : Addr) (m cap : Nat) (ys : List Value) (hl : ys.length = m * size) (hcells : ∀ j u, ys[j]? = some u → w.cell? (ad.add j) = some u) (h1 : ∀ u ∈ ys, u.oneCell' = true)
    (h63 : n + m ≤ maxLen) (hbytes : (n + m) * bytes ≤ 140737488355328) (hbase : B ≤ w.heap.size) :
    ∃ v' w', (Builtin.append_ #[t, t] ty #[v, .slice (some ad) m cap]).run P w = .ok v' w' ∧ w'.ownsRow B e size v' (n + m) (xs ++ ys) ∧ Kp (fun b => v.ownBlock = some b) w w' ∧ (∀ b, v'.ownBlock = some b → v.ownBlock = some b ∨ w.heap.size ≤ b) ∧ (v' = .slice none 0 0 ↔ v = .slice none 0 0 ∧ m = 0) := by
  obtain ⟨i, hi, hz0, hz1, hz2⟩ := info_parts hi
  obtain ⟨v', w', hrun, r1, r2, r3⟩ := run_append_own (P := P) w B t ty e i z size bytes ht hi hz0 hz1 hz2 hz hsz v n xs hown ad m cap ys hl hcells h1 h63 hbytes hbase
  refine ⟨v', w', hrun, r1, (Kp.refl (fun b => v.ownBlock = some b) w).grown r2 (fun k hk _ => hk), ?_, r3⟩
  rcases hown.2 with ⟨rfl, h0⟩ | ⟨g, c2, cur, rfl, hbg, hg, hnc, hcm, hcs, htake⟩
  · subst h0
    have hx0 : xs = [] := List.eq_nil_of_length_eq_zero (by rw [hown.1, Nat.zero_mul])
    subst hx0
    obtain ⟨v2, w2, hrun2, q3, _⟩ := run_append_own (P := P) w w.heap.size t ty e i z size bytes ht hi hz0 hz1 hz2 hz hsz _ _ [] (World.ownsRow_nil w w.heap.size e size) ad m cap ys hl hcells h1 h63 hbytes (Nat.le_refl _)
    rw [hrun] at hrun2
    simp only [Result.ok.injEq] at hrun2
    obtain ⟨rfl, rfl⟩ := hrun2
    exact fun b hb => .inr (World.ownsRow.lt q3 b hb).1
  · have hl2 : ys.length = m * i.size := by rw [hz1]; exact hl
    by_cases hroom : n + m ≤ c2
    · have hr := run_append_room (P := P) w t ty e i ht hi g n c2 cur hg ad m cap ys hl2 hcells h1 hroom (by rw [hz1, hl, hcs, ← Nat.add_mul]; exact Nat.mul_le_mul_right _ hroom)
      rw [hrun] at hr
      simp only [Result.ok.injEq] at hr
      rw [hr.1]
      exact fun b hb => .inl hb
    · have holds : ∀ j u, xs[j]? = some u → w.cell? ((⟨g, 0, none⟩ : Addr).add j) = some u := hown.cells (g := g) rfl
      have hr := run_append_grow (P := P) w t ty e i z ht hi hz0 ⟨g, 0, none⟩ n c2 xs (by rw [hz1]; exact hown.1) holds ad m cap ys hl2 hcells (by omega) (by unfold maxLen at h63; omega) (by rw [hz2]; exact growslice_fits (by omega) hbytes)
      rw [hrun] at hr
      simp only [Result.ok.injEq] at hr
      rw [hr.1]
      exact fun b hb => .inr (Nat.le_of_eq (Option.some.inj hb))
theorem wp_append_k (s x : Operand) (t : TypeId) (ho : o.op = .call { callee := .builtin .append, args := #[s, x], argTypes := #[t, t] })
    {e size bytes : Nat} {z : Value} (ht : P.underlying t = some (.slice e)) (hi : (P.info? e).map (fun i => (i.zero, i.size, i.bytes)) = some (some z, size, bytes)) (hz : z.cells.size = size) (hsz : 0 < size)
    {B n : Nat} {v : Value} {xs : List Value} (hs : a.eval s = v) (hown : w.ownsRow B e size v n xs) (ad : Addr) (m cap : Nat) (ys : List Value) (hx : a.eval x = .slice (some ad) m cap) (hl : ys.length = m * size) (hcells : ∀ j u, ys[j]? = some u → w.cell? (ad.add j) = some u) (h1 : ∀ u ∈ ys, u.oneCell' = true)
    (h63 : n + m ≤ maxLen) (hbytes : (n + m) * bytes ≤ 140737488355328) (hbase : B ≤ w.heap.size) {K : Act → World → Prop}
    (h : ∀ v' w', w'.ownsRow B e size v' (n + m) (xs ++ ys) → Kp (fun b => v.ownBlock = some b) w w' → (∀ b, v'.ownBlock = some b → v.ownBlock = some b ∨ w.heap.size ≤ b) → (v' = .slice none 0 0 ↔ v = .slice none 0 0 ∧ m = 0) → K (a.put o.dst v') w') : o.wp P a w K Q := by
  obtain ⟨v', w', hrun, r1, r2, r3, r4⟩ := run_append_k (P := P) t o.type e size bytes z ht hi hz hsz hown ad m cap ys hl hcells h1 h63 hbytes hbase
  unfold Oper.wp
  simp [execOp, ho, resolve, invoke, builtin, hs, hx, hrun, Result.andThen]
  exact h v' w' r1 r2 r3 r4
theorem wl_append_k (hgd : o.guard = none) (s x : Operand) (t : TypeId) (ho : o.op = .call { callee := .builtin .append, args := #[s, x], argTypes := #[t, t] })
    {e size bytes : Nat} {z : Value} (ht : P.underlying t = some (.slice e)) (hi : (P.info? e).map (fun i => (i.zero, i.size, i.bytes)) = some (some z, size, bytes)) (hz : z.cells.size = size) (hsz : 0 < size)
    {B n : Nat} {v : Value} {xs : List Value} (hs : a.eval s = v) (hown : w.ownsRow B e size v n xs) (ad : Addr) (m cap : Nat) (ys : List Value) (hx : a.eval x = .slice (some ad) m cap) (hl : ys.length = m * size) (hcells : ∀ j u, ys[j]? = some u → w.cell? (ad.add j) = some u) (h1 : ∀ u ∈ ys, u.oneCell' = true)
    (h63 : n + m ≤ maxLen) (hbytes : (n + m) * bytes ≤ 140737488355328) (hbase : B ≤ w.heap.size)
    (h : ∀ v' w', w'.ownsRow B e size v' (n + m) (xs ++ ys) → Kp (fun b => v.ownBlock = some b) w w' → (∀ b, v'.ownBlock = some b → v.ownBlock = some b ∨ w.heap.size ≤ b) → (v' = .slice none 0 0 ↔ v = .slice none 0 0 ∧ m = 0) → wpList P ops Q rest (a.put o.dst v') w') : wpList P ops Q (o :: rest) a w :=
  wpList_plain hgd fun _ hK => wp_append_k s x t ho ht hi hz hsz hs hown ad m cap ys hx hl hcells h1 h63 hbytes hbase (fun v' w' q1 q2 q3 q4 => hK _ _ (h v' w' q1 q2 q3 q4))
end
/-- A row of one's own: its shape. -/
theorem ownK_sl {B e size n : Nat} {w : World} {v : Value} {xs : List Value} (h : w.ownsRow B e size v n xs) : ∃ ao cap, v = .slice ao n cap ∧ n ≤ cap ∧ cap ≤ 9223372036854775807 := by
  rcases h.2 with ⟨hv, h0⟩ | ⟨g, cap, cur, hv, _, _, h1, h2, _⟩
  · exact ⟨none, 0, by rw [hv, h0], by omega, by omega⟩
  · exact ⟨_, _, hv, h1, h2⟩
theorem ownK_pos {B e size n : Nat} {w : World} {v : Value} {xs : List Value} (h : w.ownsRow B e size v n xs) (hn : 0 < n) :
    ∃ g cap cur, v = .slice (some ⟨g, 0, none⟩) n cap ∧ B ≤ g ∧ n ≤ cap ∧ cap ≤ 9223372036854775807 ∧ w.heap[g]? = some (.cells cur e (0, 0)) ∧ (∀ j u, xs[j]? = some u → w.cell? ⟨g, j, none⟩ = some u) := by
  rcases h.2 with ⟨hv, h0⟩ | ⟨g, cap, cur, hv, hb, hg, h1, h2, _⟩
  · omega
  · refine ⟨g, cap, cur, hv, hb, h1, h2, hg, fun j u hu => ?_⟩
    have := h.cells (g := g) (by rw [hv]; rfl) j u hu
    rwa [Addr.add_lit, Nat.zero_add] at this
/-- Fewer of them. -/
theorem ownK_take {B e size n : Nat} {w : World} {ao : Option Addr} {m cap : Nat} {xs : List Value} (h : w.ownsRow B e size (.slice ao m cap) n xs) (k : Nat) (hk : k ≤ n) : w.ownsRow B e size (.slice ao k cap) k (xs.take (k * size)) := by
  have hl : (xs.take (k * size)).length = k * size := by rw [List.length_take, h.1, Nat.min_eq_left (Nat.mul_le_mul_right _ hk)]
  refine ⟨hl, ?_⟩
  rcases h.2 with ⟨hv, h0⟩ | ⟨g, cap', cur, hv, hb, hg, h1, h2, h3, h4⟩
  · simp only [Value.slice.injEq] at hv
    obtain ⟨rfl, rfl, rfl⟩ := hv
    exact .inl ⟨by rw [show k = 0 by omega], by omega⟩
  · simp only [Value.slice.injEq] at hv
    obtain ⟨rfl, rfl, rfl⟩ := hv
    refine .inr ⟨g, cap, cur, rfl, hb, hg, by omega, h2, h3, ?_⟩
    rw [← h4, List.take_take, Nat.min_eq_left (Nat.mul_le_mul_right _ hk)]
end Go.Proofs.Ytmamcnhofgfolaa
namespace Go.Proofs.Ytmamcnhofgfolaa
open Go Go.RowKit
/-- A node. -/
inductive PN where
  | mk (nm vl : List UInt8) (ks : List PN)
def PN.nm : PN → List UInt8
  | .mk a _ _ => a
def PN.vl : PN → List UInt8
  | .mk _ a _ => a
def PN.ks : PN → List PN
  | .mk _ _ a => a
/-- A definition. -/
inductive PD where
  | mk (nm : List UInt8) (kd ty : Int) (vs : List (List UInt8)) (mu : Bool) (ky : List (List UInt8)) (ks : List PD)
def PD.nm : PD → List UInt8
  | .mk a _ _ _ _ _ _ => a
def PD.kd : PD → Int
  | .mk _ a _ _ _ _ _ => a
def PD.ty : PD → Int
  | .mk _ _ a _ _ _ _ => a
def PD.vs : PD → List (List UInt8)
  | .mk _ _ _ a _ _ _ => a
def PD.mu : PD → Bool
  | .mk _ _ _ _ a _ _ => a
def PD.ky : PD → List (List UInt8)
  | .mk _ _ _ _ _ a _ => a
def PD.ks : PD → List PD
  | .mk _ _ _ _ _ _ a => a
def PE.nm : PE → List UInt8
  | .mk _ a _ _ _ => a
def PE.sp : PE → List UInt8
  | .mk a _ _ _ _ => a
def PE.atts : PE → List (List UInt8 × List UInt8)
  | .mk _ _ a _ _ => a
def PE.tx : PE → List UInt8
  | .mk _ _ _ a _ => a
def PE.ks : PE → List PE
  | .mk _ _ _ _ a => a
/-- Texts as cells. -/
def txs (l : List (List UInt8)) : List Value := l.map fun t => .string (S t)
theorem txs_len (l : List (List UInt8)) : (txs l).length = l.length := by simp [txs]
theorem txs_get (l : List (List UInt8)) (i : Nat) (h : i < l.length) : (txs l)[i]? = some (.string (S l[i])) := by simp [txs, h]
theorem txs_app (a b : List (List UInt8)) : txs (a ++ b) = txs a ++ txs b := by simp [txs]
section
variable {F G : Nat → Prop} {w w1 : World} {k n : Nat} {v : Value} {xs : List Value}
theorem RdF.pos (h : RdF F w k v n xs) (hx : 0 < xs.length) :
    ∃ b o cap, v = .slice (some ⟨b, o, none⟩) n cap ∧ n ≤ cap ∧ cap ≤ 9223372036854775807 ∧ F b ∧ b < w.heap.size ∧ ∀ i u, xs[i]? = some u → w.cell? ⟨b, o + i, none⟩ = some u := by
  obtain ⟨ao, cap, rfl, h2, h3, h4, h5, h6⟩ := h
  cases ao with
  | none =>
    have := h5 rfl
    have h0 : n = 0 := by omega
    rw [h0, Nat.zero_mul] at h2
    omega
  | some ad =>
    have h0 := h6 ad rfl 0 xs[0] (by simp [hx])
    have hb := World.block_lt_of_cell? w _ h0.2
    rw [add_block] at hb
    have he := addr_eta h0.2
    obtain ⟨b, o, e⟩ := ad
    simp only [Addr.mk.injEq, true_and] at he
    subst he
    exact ⟨b, o, cap, rfl, h3, h4, h0.1, hb, fun i u hu => by have := (h6 _ rfl i u hu).2; rwa [Addr.add_lit] at this⟩
theorem RdF.shape (h : RdF F w k v n xs) : ∃ ao cap, v = .slice ao n cap ∧ n ≤ cap ∧ cap ≤ 9223372036854775807 ∧ (ao = none → cap = 0) := by
  obtain ⟨ao, cap, h1, h2, h3, h4, h5, h6⟩ := h
  exact ⟨ao, cap, h1, h3, h4, h5⟩
/-- Only blocks that are there are led to. -/
theorem RdF.lt (h : RdF F w k v n xs) : RdF (fun i => F i ∧ i < w.heap.size) w k v n xs := by
  obtain ⟨ao, cap, h1, h2, h3, h4, h5, h6⟩ := h
  refine ⟨ao, cap, h1, h2, h3, h4, h5, fun ad e i u hu => ?_⟩
  have h0 := h6 ad e i u hu
  have hb := World.block_lt_of_cell? w _ h0.2
  rw [add_block] at hb
  exact ⟨⟨h0.1, hb⟩, h0.2⟩
end
def ncs : List PN → List Value → List Value
  | n :: ns, v :: vs => .string (S n.nm) :: .string (S n.vl) :: v :: ncs ns vs
  | _, _ => []
mutual
def NdV (F : Nat → Prop) (w : World) : PN → Value → Prop
  | .mk _ _ ks, v => ∃ vs, RdF F w 3 v ks.length (ncs ks vs) ∧ NdsV F w ks vs
def NdsV (F : Nat → Prop) (w : World) : List PN → List Value → Prop
  | [], vs => vs = []
  | n :: ns, vs => ∃ v rest, vs = v :: rest ∧ NdV F w n v ∧ NdsV F w ns rest
end
/-- A slice that reads as these nodes; all that it leads to lies in F. -/
def RowN (F : Nat → Prop) (w : World) (v : Value) (ns : List PN) : Prop := ∃ vs, RdF F w 3 v ns.length (ncs ns vs) ∧ NdsV F w ns vs
def dcs : List PD → List (Value × Value × Value) → List Value
  | d :: ds, v :: vs => .string (S d.nm) :: .int .i64 d.kd :: .int .i64 d.ty :: v.1 :: .bool d.mu :: v.2.1 :: v.2.2 :: dcs ds vs
  | _, _ => []
mutual
def DfV (F : Nat → Prop) (w : World) : PD → Value × Value × Value → Prop
  | .mk _ _ _ vs _ ky ks, v => RdF F w 1 v.1 vs.length (txs vs) ∧ RdF F w 1 v.2.1 ky.length (txs ky) ∧ ∃ xs, RdF F w 7 v.2.2 ks.length (dcs ks xs) ∧ DfsV F w ks xs
def DfsV (F : Nat → Prop) (w : World) : List PD → List (Value × Value × Value) → Prop
  | [], vs => vs = []
  | n :: ns, vs => ∃ v rest, vs = v :: rest ∧ DfV F w n v ∧ DfsV F w ns rest
end
/-- A slice that reads as these definitions. -/
def RowD (F : Nat → Prop) (w : World) (v : Value) (ds : List PD) : Prop := ∃ vs, RdF F w 7 v ds.length (dcs ds vs) ∧ DfsV F w ds vs
def RowE (F : Nat → Prop) (w : World) (v : Value) (es : List PE) : Prop := ∃ cs, RdF F w 5 v es.length cs ∧ ElsV F w es cs
section
variable {F G : Nat → Prop} {w w1 : World} {S0 : Nat → Prop}
mutual
theorem NdV.keep (hk : Kp S0 w w1) (hs : ∀ i, F i → i < w.heap.size → ¬ S0 i) (hF : ∀ i, F i → i < w.heap.size → G i) : ∀ (n : PN) (v : Value), NdV F w n v → NdV G w1 n v
  | .mk _ _ ks, v, h => by
    unfold NdV at h ⊢
    obtain ⟨vs, h1, h2⟩ := h
    exact ⟨vs, (h1.lt.keep hk (fun i hi => hs i hi.1 hi.2)).mono (fun i hi => hF i hi.1 hi.2), NdsV.keep hk hs hF ks vs h2⟩
theorem NdsV.keep (hk : Kp S0 w w1) (hs : ∀ i, F i → i < w.heap.size → ¬ S0 i) (hF : ∀ i, F i → i < w.heap.size → G i) : ∀ (ns : List PN) (vs : List Value), NdsV F w ns vs → NdsV G w1 ns vs
  | [], vs, h => by unfold NdsV at h ⊢; exact h
  | n :: ns, vs, h => by
    unfold NdsV at h ⊢
    obtain ⟨v, rest, h1, h2, h3⟩ := h
    exact ⟨v, rest, h1, NdV.keep hk hs hF n v h2, NdsV.keep hk hs hF ns rest h3⟩
end
mutual
theorem DfV.keep (hk : Kp S0 w w1) (hs : ∀ i, F i → i < w.heap.size → ¬ S0 i) (hF : ∀ i, F i → i < w.heap.size → G i) : ∀ (n : PD) (v : Value × Value × Value), DfV F w n v → DfV G w1 n v
  | .mk _ _ _ vs _ ky ks, v, h => by
    unfold DfV at h ⊢
    obtain ⟨h1, h2, xs, h3, h4⟩ := h
    exact ⟨(h1.lt.keep hk (fun i hi => hs i hi.1 hi.2)).mono (fun i hi => hF i hi.1 hi.2), (h2.lt.keep hk (fun i hi => hs i hi.1 hi.2)).mono (fun i hi => hF i hi.1 hi.2), xs, (h3.lt.keep hk (fun i hi => hs i hi.1 hi.2)).mono (fun i hi => hF i hi.1 hi.2), DfsV.keep hk hs hF ks xs h4⟩
theorem DfsV.keep (hk : Kp S0 w w1) (hs : ∀ i, F i → i < w.heap.size → ¬ S0 i) (hF : ∀ i, F i → i < w.heap.size → G i) : ∀ (ns : List PD) (vs : List (Value × Value × Value)), DfsV F w ns vs → DfsV G w1 ns vs
  | [], vs, h => by unfold DfsV at h ⊢; exact h
  | n :: ns, vs, h => by
    unfold DfsV at h ⊢
    obtain ⟨v, rest, h1, h2, h3⟩ := h
    exact ⟨v, rest, h1, DfV.keep hk hs hF n v h2, DfsV.keep hk hs hF ns rest h3⟩
end
theorem RowN.keep {v : Value} {ns : List PN} (h : RowN F w v ns) (hk : Kp S0 w w1) (hs : ∀ i, F i → i < w.heap.size → ¬ S0 i) (hF : ∀ i, F i → i < w.heap.size → G i) : RowN G w1 v ns := by
  obtain ⟨vs, h1, h2⟩ := h
  exact ⟨vs, (h1.lt.keep hk (fun i hi => hs i hi.1 hi.2)).mono (fun i hi => hF i hi.1 hi.2), NdsV.keep hk hs hF ns vs h2⟩
theorem RowN.kp0 {v : Value} {ns : List PN} (h : RowN F w v ns) (hk : Kp0 w w1) : RowN F w1 v ns := h.keep hk (fun _ _ _ h => h) (fun _ h _ => h)
theorem RowN.mono {v : Value} {ns : List PN} (h : RowN F w v ns) (hF : ∀ i, F i → i < w.heap.size → G i) : RowN G w v ns := h.keep (Kp.refl (fun _ => False) w) (fun _ _ _ h => h) hF
theorem RowD.keep {v : Value} {ns : List PD} (h : RowD F w v ns) (hk : Kp S0 w w1) (hs : ∀ i, F i → i < w.heap.size → ¬ S0 i) (hF : ∀ i, F i → i < w.heap.size → G i) : RowD G w1 v ns := by
  obtain ⟨vs, h1, h2⟩ := h
  exact ⟨vs, (h1.lt.keep hk (fun i hi => hs i hi.1 hi.2)).mono (fun i hi => hF i hi.1 hi.2), DfsV.keep hk hs hF ns vs h2⟩
theorem RowD.kp0 {v : Value} {ns : List PD} (h : RowD F w v ns) (hk : Kp0 w w1) : RowD F w1 v ns := h.keep hk (fun _ _ _ h => h) (fun _ h _ => h)
theorem RdF.kp0 {k n : Nat} {v : Value} {xs : List Value} (h : RdF F w k v n xs) (hk : Kp0 w w1) : RdF F w1 k v n xs := h.keep hk (fun _ _ h => h)
theorem RowE.keep {v : Value} {es : List PE} (h : RowE F w v es) (hk : Kp S0 w w1) (hs : ∀ i, F i → ¬ S0 i) (hF : ∀ i, F i → G i) : RowE G w1 v es := by
  obtain ⟨cs, h1, h2⟩ := h
  exact ⟨cs, (h1.keep hk hs).mono hF, ElsV.keep hk hs hF es cs h2⟩
theorem RowE.kp0 {v : Value} {es : List PE} (h : RowE F w v es) (hk : Kp0 w w1) : RowE F w1 v es := h.keep hk (fun _ _ h => h) (fun _ h => h)
theorem ncs_len : ∀ (ns : List PN) (vs : List Value), NdsV F w ns vs → (ncs ns vs).length = ns.length * 3
  | [], vs, h => by unfold NdsV at h; subst h; rfl
  | n :: ns, vs, h => by
    unfold NdsV at h
    obtain ⟨v, rest, rfl, h2, h3⟩ := h
    have := ncs_len ns rest h3
    simp only [ncs, List.length_cons, this]
    omega
theorem dcs_len : ∀ (ns : List PD) (vs : List (Value × Value × Value)), DfsV F w ns vs → (dcs ns vs).length = ns.length * 7
  | [], vs, h => by unfold DfsV at h; subst h; rfl
  | n :: ns, vs, h => by
    unfold DfsV at h
    obtain ⟨v, rest, rfl, h2, h3⟩ := h
    have := dcs_len ns rest h3
    simp only [dcs, List.length_cons, this]
    omega
theorem NdV.row {n : PN} {v : Value} (h : NdV F w n v) : RowN F w v n.ks := by
  cases n
  unfold NdV at h
  exact h
theorem RowN.nd {n : PN} {v : Value} (h : RowN F w v n.ks) : NdV F w n v := by
  cases n
  unfold NdV
  exact h
theorem ncs_get : ∀ (ns : List PN) (vs : List Value), NdsV F w ns vs → ∀ (i : Nat) (h : i < ns.length), ∃ v, (ncs ns vs)[i * 3]? = some (.string (S (ns[i]).nm)) ∧ (ncs ns vs)[i * 3 + 1]? = some (.string (S (ns[i]).vl)) ∧ (ncs ns vs)[i * 3 + 2]? = some v ∧ RowN F w v (ns[i]).ks
  | [], vs, h, i, hi => by simp at hi
  | n :: ns, vs, h, i, hi => by
    unfold NdsV at h
    obtain ⟨v, rest, rfl, h2, h3⟩ := h
    cases i with
    | zero => exact ⟨v, rfl, rfl, rfl, h2.row⟩
    | succ i =>
      obtain ⟨v', g0, g1, g2, g3⟩ := ncs_get ns rest h3 i (by simpa using hi)
      refine ⟨v', ?_⟩
      rw [show (i + 1) * 3 = i * 3 + 1 + 1 + 1 by omega]
      simp only [ncs, List.getElem?_cons_succ, List.getElem_cons_succ, show ∀ j, i * 3 + 1 + 1 + 1 + j = (i * 3 + j) + 1 + 1 + 1 from fun j => by omega]
      exact ⟨g0, g1, g2, g3⟩
/-- The node at a place. -/
theorem RowN.at {v : Value} {ns : List PN} (h : RowN F w v ns) (i : Nat) (hi : i < ns.length) :
    ∃ b o cap kv, v = .slice (some ⟨b, o, none⟩) ns.length cap ∧ ns.length ≤ cap ∧ cap ≤ 9223372036854775807 ∧ w.cell? ⟨b, o + i * 3, none⟩ = some (.string (S (ns[i]).nm)) ∧ w.cell? ⟨b, o + i * 3 + 1, none⟩ = some (.string (S (ns[i]).vl)) ∧ w.cell? ⟨b, o + i * 3 + 2, none⟩ = some kv ∧ RowN F w kv (ns[i]).ks ∧ F b ∧ b < w.heap.size := by
  obtain ⟨vs, h1, h2⟩ := h
  obtain ⟨b, o, cap, rfl, h3, h4, hF, hb, h5⟩ := h1.pos (by rw [ncs_len ns vs h2]; omega)
  obtain ⟨kv, g0, g1, g2, g3⟩ := ncs_get ns vs h2 i hi
  exact ⟨b, o, cap, kv, rfl, h3, h4, h5 _ _ g0, by rw [Nat.add_assoc]; exact h5 _ _ g1, by rw [Nat.add_assoc]; exact h5 _ _ g2, g3, hF, hb⟩
theorem RowN.shape {v : Value} {ns : List PN} (h : RowN F w v ns) : ∃ ao cap, v = .slice ao ns.length cap ∧ ns.length ≤ cap ∧ cap ≤ 9223372036854775807 ∧ (ao = none → cap = 0) := by
  obtain ⟨vs, h1, h2⟩ := h
  exact h1.shape
theorem RowN.nil (F : Nat → Prop) (w : World) : RowN F w (.slice none 0 0) [] := ⟨[], RdF.nil _ _ _, by unfold NdsV; rfl⟩
/-- What a definition's slices lead to. -/
structure DfR (F : Nat → Prop) (w : World) (d : PD) (a b c : Value) : Prop where
  vs : RdF F w 1 a d.vs.length (txs d.vs)
  ky : RdF F w 1 b d.ky.length (txs d.ky)
  ks : RowD F w c d.ks
theorem DfV.row {d : PD} {v : Value × Value × Value} (h : DfV F w d v) : DfR F w d v.1 v.2.1 v.2.2 := by
  cases d
  unfold DfV at h
  exact ⟨h.1, h.2.1, h.2.2⟩
theorem DfR.df {d : PD} {a b c : Value} (h : DfR F w d a b c) : DfV F w d (a, b, c) := by
  cases d
  unfold DfV
  exact ⟨h.vs, h.ky, h.ks⟩
theorem DfR.kp0 {d : PD} {a b c : Value} (h : DfR F w d a b c) (hk : Kp0 w w1) : DfR F w1 d a b c := ⟨h.vs.kp0 hk, h.ky.kp0 hk, h.ks.kp0 hk⟩
theorem dcs_get : ∀ (ns : List PD) (vs : List (Value × Value × Value)), DfsV F w ns vs → ∀ (i : Nat) (h : i < ns.length), ∃ a b c, (dcs ns vs)[i * 7]? = some (.string (S (ns[i]).nm)) ∧ (dcs ns vs)[i * 7 + 1]? = some (.int .i64 (ns[i]).kd) ∧ (dcs ns vs)[i * 7 + 2]? = some (.int .i64 (ns[i]).ty) ∧ (dcs ns vs)[i * 7 + 3]? = some a ∧ (dcs ns vs)[i * 7 + 4]? = some (.bool (ns[i]).mu) ∧ (dcs ns vs)[i * 7 + 5]? = some b ∧ (dcs ns vs)[i * 7 + 6]? = some c ∧ DfR F w ns[i] a b c
  | [], vs, h, i, hi => by simp at hi
  | n :: ns, vs, h, i, hi => by
    unfold DfsV at h
    obtain ⟨v, rest, rfl, h2, h3⟩ := h
    cases i with
    | zero => exact ⟨v.1, v.2.1, v.2.2, rfl, rfl, rfl, rfl, rfl, rfl, rfl, h2.row⟩
    | succ i =>
      obtain ⟨a, b, c, g0, g1, g2, g3, g4, g5, g6, g7⟩ := dcs_get ns rest h3 i (by simpa using hi)
      refine ⟨a, b, c, ?_⟩
      rw [show (i + 1) * 7 = i * 7 + 1 + 1 + 1 + 1 + 1 + 1 + 1 by omega]
      simp only [dcs, List.getElem?_cons_succ, List.getElem_cons_succ, show ∀ j, i * 7 + 1 + 1 + 1 + 1 + 1 + 1 + 1 + j = (i * 7 + j) + 1 + 1 + 1 + 1 + 1 + 1 + 1 from fun j => by omega]
      exact ⟨g0, g1, g2, g3, g4, g5, g6, g7⟩
/-- The definition at a place. -/
theorem RowD.at {v : Value} {ns : List PD} (h : RowD F w v ns) (i : Nat) (hi : i < ns.length) :
    ∃ g o cap a b c, v = .slice (some ⟨g, o, none⟩) ns.length cap ∧ ns.length ≤ cap ∧ cap ≤ 9223372036854775807 ∧ w.cell? ⟨g, o + i * 7, none⟩ = some (.string (S (ns[i]).nm)) ∧ w.cell? ⟨g, o + i * 7 + 1, none⟩ = some (.int .i64 (ns[i]).kd) ∧ w.cell? ⟨g, o + i * 7 + 2, none⟩ = some (.int .i64 (ns[i]).ty) ∧ w.cell? ⟨g, o + i * 7 + 3, none⟩ = some a ∧ w.cell? ⟨g, o + i * 7 + 4, none⟩ = some (.bool (ns[i]).mu) ∧ w.cell? ⟨g, o + i * 7 + 5, none⟩ = some b ∧ w.cell? ⟨g, o + i * 7 + 6, none⟩ = some c ∧ DfR F w ns[i] a b c ∧ F g ∧ g < w.heap.size := by
  obtain ⟨vs, h1, h2⟩ := h
  obtain ⟨g, o, cap, rfl, h3, h4, hF, hb, h5⟩ := h1.pos (by rw [dcs_len ns vs h2]; omega)
  obtain ⟨a, b, c, g0, g1, g2, g3, g4, g5, g6, g7⟩ := dcs_get ns vs h2 i hi
  exact ⟨g, o, cap, a, b, c, rfl, h3, h4, h5 _ _ g0, by rw [Nat.add_assoc]; exact h5 _ _ g1, by rw [Nat.add_assoc]; exact h5 _ _ g2, by rw [Nat.add_assoc]; exact h5 _ _ g3, by rw [Nat.add_assoc]; exact h5 _ _ g4, by rw [Nat.add_assoc]; exact h5 _ _ g5, by rw [Nat.add_assoc]; exact h5 _ _ g6, g7, hF, hb⟩
theorem RowD.shape {v : Value} {ns : List PD} (h : RowD F w v ns) : ∃ ao cap, v = .slice ao ns.length cap ∧ ns.length ≤ cap ∧ cap ≤ 9223372036854775807 ∧ (ao = none → cap = 0) := by
  obtain ⟨vs, h1, h2⟩ := h
  exact h1.shape
theorem RowD.nil (F : Nat → Prop) (w : World) : RowD F w (.slice none 0 0) [] := ⟨[], RdF.nil _ _ _, by unfold DfsV; rfl⟩
/-- What an element's slices lead to. -/
structure ElR (F : Nat → Prop) (w : World) (e : PE) (a c : Value) : Prop where
  at_ : RdF F w 2 a e.atts.length (prs e.atts)
  ks : RowE F w c e.ks
theorem ElR.kp0 {e : PE} {a c : Value} (h : ElR F w e a c) (hk : Kp0 w w1) : ElR F w1 e a c := ⟨h.at_.kp0 hk, h.ks.kp0 hk⟩
theorem RowE.shape {v : Value} {ns : List PE} (h : RowE F w v ns) : ∃ ao cap, v = .slice ao ns.length cap ∧ ns.length ≤ cap ∧ cap ≤ 9223372036854775807 ∧ (ao = none → cap = 0) := by
  obtain ⟨vs, h1, h2⟩ := h
  exact h1.shape
theorem RowE.nil (F : Nat → Prop) (w : World) : RowE F w (.slice none 0 0) [] := ⟨[], RdF.nil _ _ _, by unfold ElsV; rfl⟩
/-- The element at a place. -/
theorem RowE.at {v : Value} {ns : List PE} (h : RowE F w v ns) (i : Nat) (hi : i < ns.length) :
    ∃ g o cap a c, v = .slice (some ⟨g, o, none⟩) ns.length cap ∧ ns.length ≤ cap ∧ cap ≤ 9223372036854775807 ∧ w.cell? ⟨g, o + i * 5, none⟩ = some (.string (S (ns[i]).sp)) ∧ w.cell? ⟨g, o + i * 5 + 1, none⟩ = some (.string (S (ns[i]).nm)) ∧ w.cell? ⟨g, o + i * 5 + 2, none⟩ = some a ∧ w.cell? ⟨g, o + i * 5 + 3, none⟩ = some (.string (S (ns[i]).tx)) ∧ w.cell? ⟨g, o + i * 5 + 4, none⟩ = some c ∧ ElR F w ns[i] a c ∧ F g ∧ g < w.heap.size := by
  obtain ⟨cs, h1, h2⟩ := h
  obtain ⟨g, o, cap, rfl, h3, h4, hF, hb, h5⟩ := h1.pos (by rw [ElsV.len ns cs h2]; omega)
  obtain ⟨c0, c1, c2, c3, c4, g0, g1, g2, g3, g4, hv⟩ := ElsV.get ns cs h2 i hi
  have hn : ∃ e, e = ns[i] := ⟨_, rfl⟩
  obtain ⟨e, he⟩ := hn
  rw [← he] at hv ⊢
  clear he
  obtain ⟨sp, nm, at_, tx, ks⟩ := e
  unfold ElV at hv
  obtain ⟨rfl, rfl, ha, rfl, kc, hk, hks⟩ := hv
  exact ⟨g, o, cap, c2, c4, rfl, h3, h4, h5 _ _ g0, by rw [Nat.add_assoc]; exact h5 _ _ g1, by rw [Nat.add_assoc]; exact h5 _ _ g2, by rw [Nat.add_assoc]; exact h5 _ _ g3, by rw [Nat.add_assoc]; exact h5 _ _ g4, ⟨ha, kc, hk, hks⟩, hF, hb⟩
end
end Go.Proofs.Ytmamcnhofgfolaa
