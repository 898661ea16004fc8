/- Elements that came in. -/
import Derived.Test.YtmamcnhofgfolaaTrO
import Derived.Test.YtmamcnhofgfolaaRows
import Derived.ChangeArms
namespace Go.Proofs.Ytmamcnhofgfolaa
open Go Go.RowKit
theorem came_cells {w : World} {base n : Nat} {a : Addr} {cs : List Value} (h : w.cells? base a n = some cs) : cs.length = n ∧ ∀ i, i < n → w.cell? (a.add i) = cs[i]? := by
  unfold World.cells? at h
  split at h
  · refine ⟨by have := mapM_some_length h; simpa using this, fun i hi => ?_⟩
    exact mapM_some_get h i i (by simp [hi])
  · cases h
theorem two_of {α : Type} {l : List α} (h : l.length = 2) : ∃ a b, l = [a, b] := by
  match l, h with
  | [a, b], _ => exact ⟨a, b, rfl⟩
theorem five_of {α : Type} {l : List α} (h : l.length = 5) : ∃ a b c d e, l = [a, b, c, d, e] := by
  match l, h with
  | [a, b, c, d, e], _ => exact ⟨a, b, c, d, e, rfl⟩
section
variable {H : Type} {enc : TypeId × Value → H} {w : World} {held : Bool}
theorem came_str1 {fuel : Nat} {c : Value} {x : DataW H × List MemPlace} (h : DataW.trod enc Try.prog w 0 (fun _ => true) held fuel 9 [c] = some x) : ∃ l : List UInt8, c = .string (S l) ∧ ((∀ n ∈ DataW.weights Try.prog 9 x.1, n ≤ reachBytes) → l.length ≤ 140737488351232) := by
  obtain ⟨s, e, rfl, _⟩ := DataW.trod_string Try.underlying9 h
  refine ⟨s.toList, ?_, fun hz => ?_⟩
  · rw [S_of]
    simpa using e
  · have := hz s.data.toList.length (by simp only [DataW.weights, List.mem_singleton])
    rw [ByteArray.toList_eq]
    exact this
theorem came_attr {fuel : Nat} {cs : List Value} {x : DataW H × List MemPlace} (h : DataW.trod enc Try.prog w 0 (fun _ => true) held fuel 105 cs = some x) :
    ∃ p : List UInt8 × List UInt8, cs = [.string (S p.1), .string (S p.2)] := by
  obtain ⟨xs, n, rfl, rfl, hl, hxs, hf⟩ := DataW.trod_struct Try.underlying105 h
  have hc : Try.prog.cellsOf 105 = 2 := by kernel_rfl
  have hc1 : Try.prog.cellsOf 9 = 1 := by kernel_rfl
  rw [hc] at hl
  have h0 : DataW.trod enc Try.prog w 0 (fun _ => true) held n 9 ((cs.drop 0).take (Try.prog.cellsOf 9)) = xs[0]? := hf 0 _ rfl
  have h1 : DataW.trod enc Try.prog w 0 (fun _ => true) held n 9 ((cs.drop 1).take (Try.prog.cellsOf 9)) = xs[1]? := hf 1 _ rfl
  rw [hc1] at h0 h1
  obtain ⟨a, b, rfl⟩ := two_of hl
  obtain ⟨x0, x1, rfl⟩ := two_of (show xs.length = 2 from hxs)
  ·
    obtain ⟨l0, rfl, b0⟩ := came_str1 (c := a) (by simpa using h0)
    obtain ⟨l1, rfl, b1⟩ := came_str1 (c := b) (by simpa using h1)
    exact ⟨(l0, l1), rfl⟩
theorem attrs_row {n : Nat} {a : Addr} : ∀ (E : List (DataW H × List MemPlace)) (o : Nat), (∀ i, i < E.length → (w.cells? 0 (a.add ((o + i) * 2)) 2).bind (DataW.trod enc Try.prog w 0 (fun _ => true) held n 105) = E[i]?) →
    ∃ l : List (List UInt8 × List UInt8), l.length = E.length ∧ (∀ (i : Nat) u, (prs l)[i]? = some u → w.cell? (a.add (o * 2 + i)) = some u) ∧ True
  | [], o, _ => ⟨[], rfl, (fun i u hu => by simp [prs] at hu), trivial⟩
  | x :: E, o, h => by
    have h0 := h 0 (by simp)
    simp only [Nat.add_zero, List.getElem?_cons_zero, Option.bind_eq_some_iff] at h0
    obtain ⟨cs, hc, ht⟩ := h0
    obtain ⟨p, rfl⟩ := came_attr ht
    obtain ⟨l, h1, h2, h3⟩ := attrs_row E (o + 1) (fun i hi => by
      have := h (i + 1) (by simpa using hi)
      rw [List.getElem?_cons_succ] at this
      rw [← this, show o + 1 + i = o + (i + 1) by omega])
    obtain ⟨_, hcc⟩ := came_cells hc
    refine ⟨p :: l, by simp [h1], fun i u hu => ?_, ?_⟩
    · match i, hu with
      | 0, hu => have := hcc 0 (by omega); rw [Addr.add_add] at this; rw [this]; exact hu
      | 1, hu => have := hcc 1 (by omega); rw [Addr.add_add] at this; rw [this]; exact hu
      | i + 2, hu => rw [show o * 2 + (i + 2) = (o + 1) * 2 + i by omega]; exact h2 i u hu
    · trivial
theorem came_attrs {fuel : Nat} {c : Value} {x : DataW H × List MemPlace} (h : DataW.trod enc Try.prog w 0 (fun _ => true) held fuel 36 [c] = some x) :
    ∃ l : List (List UInt8 × List UInt8), RdF (fun i => i < w.heap.size) w 2 c l.length (prs l) ∧ ((∀ n ∈ DataW.weights Try.prog 36 x.1, n ≤ reachBytes) → l.length ≤ 140737488351232) := by
  have hc : Try.prog.cellsOf 105 = 2 := by kernel_rfl
  rcases DataW.trod_slice Try.underlying36 h with ⟨hcs, rfl⟩ | ⟨a, len, cap, elems, rest, n, rfl, hcs, rfl, _, hl, hm, hlen, hel, _, _⟩
  · obtain rfl : c = .slice none 0 0 := by simpa using hcs
    exact ⟨[], RdF.nil _ _ _, fun _ => Nat.zero_le _⟩
  · obtain rfl : c = .slice (some a) len cap := by simpa using hcs
    rw [hc] at hel
    obtain ⟨l, h1, h2, h3⟩ := attrs_row (a := a) elems 0 (fun i hi => by rw [Nat.zero_add]; exact hel i (by omega))
    refine ⟨l, ⟨some a, cap, by rw [h1, hlen], prs_len l, by omega, by unfold maxLen at hm; omega, (fun e => by cases e), fun ad e i u hu => ?_⟩, ?_⟩
    · cases e
      have := h2 i u hu
      rw [Nat.zero_mul, Nat.zero_add] at this
      have hb := World.block_lt_of_cell? w _ this
      rw [add_block] at hb
      exact ⟨hb, this⟩
    · intro hz
      have hb : Try.prog.bytesOf 105 = 32 := by kernel_rfl
      have := hz ((elems.map (·.1)).length * 32 + (rest.map (·.1)).length * 32) (by
        simp only [DataW.weights, Try.underlying36, hb, List.mem_cons]
        left
        rw [Nat.add_mul])
      rw [List.length_map, ← h1] at this
      have hr : reachBytes = 140737488351232 := rfl
      omega
/-- What is to be shown of an element's reading. -/
def CameE (w : World) (cs : List Value) (x : DataW H × List MemPlace) : Prop :=
  ∃ pe c0 c1 c2 c3 c4, cs = [c0, c1, c2, c3, c4] ∧ ElV (fun i => i < w.heap.size) w pe c0 c1 c2 c3 c4 ∧ ((∀ n ∈ DataW.weights Try.prog 38 x.1, n ≤ reachBytes) → tOk pe)
theorem elems_row {n : Nat} {a : Addr} (ih : ∀ cs x, DataW.trod enc Try.prog w 0 (fun _ => true) held n 38 cs = some x → CameE w cs x) : ∀ (E : List (DataW H × List MemPlace)) (o : Nat), (∀ i, i < E.length → (w.cells? 0 (a.add ((o + i) * 5)) 5).bind (DataW.trod enc Try.prog w 0 (fun _ => true) held n 38) = E[i]?) →
    ∃ (l : List PE) (cs : List Value), l.length = E.length ∧ cs.length = l.length * 5 ∧ (∀ (i : Nat) u, cs[i]? = some u → w.cell? (a.add (o * 5 + i)) = some u) ∧ ElsV (fun i => i < w.heap.size) w l cs ∧ ((∀ n ∈ DataW.weightsAll Try.prog 38 (E.map (·.1)), n ≤ reachBytes) → tsOk l)
  | [], o, _ => ⟨[], [], rfl, rfl, (fun i u hu => by simp at hu), by unfold ElsV; rfl, fun _ => by unfold tsOk; trivial⟩
  | x :: E, o, h => by
    have h0 := h 0 (by simp)
    simp only [Nat.add_zero, List.getElem?_cons_zero, Option.bind_eq_some_iff] at h0
    obtain ⟨cs0, hc, ht⟩ := h0
    obtain ⟨pe, c0, c1, c2, c3, c4, rfl, hel, hb⟩ := ih _ _ ht
    obtain ⟨l, cs, h1, h2, h3, h4, h5⟩ := elems_row ih E (o + 1) (fun i hi => by
      have := h (i + 1) (by simpa using hi)
      rw [List.getElem?_cons_succ] at this
      rw [← this, show o + 1 + i = o + (i + 1) by omega])
    obtain ⟨_, hcc⟩ := came_cells hc
    refine ⟨pe :: l, c0 :: c1 :: c2 :: c3 :: c4 :: cs, by simp [h1], by simp only [List.length_cons, h2]; omega, fun i u hu => ?_, ?_, ?_⟩
    · match i, hu with
      | 0, hu => have := hcc 0 (by omega); rw [Addr.add_add] at this; rw [this]; exact hu
      | 1, hu => have := hcc 1 (by omega); rw [Addr.add_add] at this; rw [this]; exact hu
      | 2, hu => have := hcc 2 (by omega); rw [Addr.add_add] at this; rw [this]; exact hu
      | 3, hu => have := hcc 3 (by omega); rw [Addr.add_add] at this; rw [this]; exact hu
      | 4, hu => have := hcc 4 (by omega); rw [Addr.add_add] at this; rw [this]; exact hu
      | i + 5, hu => rw [show o * 5 + (i + 5) = (o + 1) * 5 + i by omega]; exact h3 i u hu
    · unfold ElsV
      exact ⟨c0, c1, c2, c3, c4, cs, rfl, hel, h4⟩
    · intro hz
      simp only [List.map_cons, DataW.weightsAll, List.mem_append] at hz
      unfold tsOk
      exact ⟨hb (fun n hn => hz n (.inl hn)), h5 (fun n hn => hz n (.inr hn))⟩
theorem came_kids {fuel : Nat} {c : Value} {x : DataW H × List MemPlace} (ih : ∀ m, m < fuel → ∀ cs x, DataW.trod enc Try.prog w 0 (fun _ => true) held m 38 cs = some x → CameE w cs x) (h : DataW.trod enc Try.prog w 0 (fun _ => true) held fuel 22 [c] = some x) :
    ∃ l cs, RdF (fun i => i < w.heap.size) w 5 c l.length cs ∧ ElsV (fun i => i < w.heap.size) w l cs ∧ ((∀ n ∈ DataW.weights Try.prog 22 x.1, n ≤ reachBytes) → tsOk l) := by
  have hc : Try.prog.cellsOf 38 = 5 := by kernel_rfl
  rcases DataW.trod_slice Try.underlying22 h with ⟨hcs, rfl⟩ | ⟨a, len, cap, elems, rest, n, rfl, hcs, rfl, _, hl, hm, hlen, hel, _, _⟩
  · obtain rfl : c = .slice none 0 0 := by simpa using hcs
    exact ⟨[], [], RdF.nil _ _ _, by unfold ElsV; rfl, fun _ => by unfold tsOk; trivial⟩
  · obtain rfl : c = .slice (some a) len cap := by simpa using hcs
    rw [hc] at hel
    obtain ⟨l, cs, h1, h2, h3, h4, h5⟩ := elems_row (a := a) (ih n (by omega)) elems 0 (fun i hi => by rw [Nat.zero_add]; exact hel i (by omega))
    refine ⟨l, cs, ⟨some a, cap, by rw [h1, hlen], h2, by omega, by unfold maxLen at hm; omega, (fun e => by cases e), fun ad e i u hu => ?_⟩, h4, ?_⟩
    · cases e
      have := h3 i u hu
      rw [Nat.zero_mul, Nat.zero_add] at this
      have hb := World.block_lt_of_cell? w _ this
      rw [add_block] at hb
      exact ⟨hb, this⟩
    · intro hz
      refine h5 (fun n hn => hz n ?_)
      simp only [DataW.weights, Try.underlying22, List.mem_cons, List.mem_append]
      exact .inr (.inl hn)
set_option maxRecDepth 20000 in
theorem came_elem (fuel : Nat) : ∀ (cs : List Value) (x : DataW H × List MemPlace), DataW.trod enc Try.prog w 0 (fun _ => true) held fuel 38 cs = some x → CameE w cs x := by
  induction fuel using Nat.strongRecOn with
  | _ fuel ih =>
    intro cs x h
    obtain ⟨xs, n, rfl, rfl, hl, hxs, hf⟩ := DataW.trod_struct Try.underlying38 h
    have hc : Try.prog.cellsOf 38 = 5 := by kernel_rfl
    have hc1 : Try.prog.cellsOf 9 = 1 := by kernel_rfl
    have hc2 : Try.prog.cellsOf 36 = 1 := by kernel_rfl
    have hc3 : Try.prog.cellsOf 22 = 1 := by kernel_rfl
    rw [hc] at hl
    have h0 : DataW.trod enc Try.prog w 0 (fun _ => true) held n 9 ((cs.drop 0).take (Try.prog.cellsOf 9)) = xs[0]? := hf 0 _ rfl
    have h1 : DataW.trod enc Try.prog w 0 (fun _ => true) held n 9 ((cs.drop 1).take (Try.prog.cellsOf 9)) = xs[1]? := hf 1 _ rfl
    have h2 : DataW.trod enc Try.prog w 0 (fun _ => true) held n 36 ((cs.drop 2).take (Try.prog.cellsOf 36)) = xs[2]? := hf 2 _ rfl
    have h3 : DataW.trod enc Try.prog w 0 (fun _ => true) held n 9 ((cs.drop 3).take (Try.prog.cellsOf 9)) = xs[3]? := hf 3 _ rfl
    have h4 : DataW.trod enc Try.prog w 0 (fun _ => true) held n 22 ((cs.drop 4).take (Try.prog.cellsOf 22)) = xs[4]? := hf 4 _ rfl
    rw [hc1] at h0 h1 h3
    rw [hc2] at h2
    rw [hc3] at h4
    obtain ⟨a, b, c, d, e, rfl⟩ := five_of hl
    obtain ⟨x0, x1, x2, x3, x4, rfl⟩ := five_of (show xs.length = 5 from hxs)
    obtain ⟨l0, rfl, b0⟩ := came_str1 (c := a) (by simpa using h0)
    obtain ⟨l1, rfl, b1⟩ := came_str1 (c := b) (by simpa using h1)
    obtain ⟨at_, hra, b2⟩ := came_attrs (c := c) (by simpa using h2)
    obtain ⟨l3, rfl, b3⟩ := came_str1 (c := d) (by simpa using h3)
    obtain ⟨ks, ks2, hrk, hek, b4⟩ := came_kids (fuel := n) (x := x4) (c := e) (fun m hm => ih m (by omega)) (by simpa using h4)
    refine ⟨.mk l0 l1 at_ l3 ks, _, _, _, _, _, rfl, ?_, ?_⟩
    · unfold ElV
      exact ⟨rfl, rfl, hra, rfl, ks2, hrk, hek⟩
    · intro hz
      have hz : ∀ n, (n ∈ DataW.weights Try.prog 9 x0.1 ∨ n ∈ DataW.weights Try.prog 9 x1.1 ∨ n ∈ DataW.weights Try.prog 36 x2.1 ∨ n ∈ DataW.weights Try.prog 9 x3.1 ∨ n ∈ DataW.weights Try.prog 22 x4.1) → n ≤ reachBytes := fun n hn => hz n (by
        simp only [DataW.weights, Try.underlying38, List.map_cons, List.map_nil, DataW.weightsEach, List.mem_append, List.not_mem_nil, or_false]
        exact hn)
      unfold tOk
      exact ⟨⟨b3 (fun n hn => hz n (.inr (.inr (.inr (.inl hn))))), b0 (fun n hn => hz n (.inl hn)), b1 (fun n hn => hz n (.inr (.inl hn))), b2 (fun n hn => hz n (.inr (.inr (.inl hn))))⟩, b4 (fun n hn => hz n (.inr (.inr (.inr (.inr hn)))))⟩
end
/-- A row of elements that came in. -/
theorem came_elems {H : Type} {enc : TypeId × Value → H} {w : World} {held : Bool} {c : Value} {d : DataW H} {ps : List MemPlace} (hc : c.cells = #[c]) (h : DataW.Trod enc Try.prog w 0 (fun _ => true) held 22 c d ps) (hz : ∀ n ∈ d.weights Try.prog 22, n ≤ reachBytes) :
    ∃ l, RowE (fun i => i < w.heap.size) w c l ∧ tsOk l := by
  obtain ⟨fuel, hf⟩ := h
  rw [hc] at hf
  obtain ⟨l, cs, h1, h2, h3⟩ := came_kids (fuel := fuel) (fun m _ => came_elem m) hf
  exact ⟨l, ⟨cs, h1, h2⟩, h3 hz⟩
end Go.Proofs.Ytmamcnhofgfolaa
