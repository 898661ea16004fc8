/- A []byte, a [][]byte that came in, as rows of bytes. Nothing of the program stands here. -/
import Derived.Test.YtmmbhmfbhleglaaDoorFrame
import Derived.Test.YtmmbhmfbhleglaaDoorArg1
import Derived.Test.YtmmbhmfbhleglaaDoorBlk
import Derived.OpenShut
import Derived.WideShapes
import Derived.ChangeSlices
namespace Go.Proofs.YtmmbhmfbhleglaaDoor
open Go Go.RowKit
/-- A []byte that came in, as a cell of something. -/
theorem came_cell {H : Type} {enc : TypeId × Value → H} {P : Program} {w : World} {base : Nat} {held : Bool} {s e : TypeId} {fuel : Nat} {cs : List Value} {x : DataW H × List MemPlace}
    (hs : P.underlying s = some (.slice e)) (he : P.underlying e = some (.int .u8)) (ce : P.cellsOf e = 1)
    (h : DataW.trod enc P w base (fun _ => true) held fuel s cs = some x) : ∃ v l, cs = [v] ∧ Rd w v (bys l) ∧ ((∀ n ∈ x.1.weights P s, n ≤ reachBytes) → P.bytesOf e = 1 → l.length ≤ 140737488351232) := by
  rcases Go.ChangeShapes.open_ints hs he ce h with ⟨hcs, _⟩ | ⟨a, l, c, zs, hcs, _, hl, hm, hzl, hx, hcell, hwz⟩
  · exact ⟨_, [], hcs, Rd.nil w, fun _ _ => by simp⟩
  · obtain ⟨m, h1, h2⟩ := rd_row (zs := zs) (.inr ⟨_, rfl, hl, hm, by simpa using hzl, hcell, hwz⟩)
    refine ⟨_, m, hcs, h2, fun hz hb => ?_⟩
    subst hx
    have := hz _ (by simp only [DataW.weights, hs, List.mem_cons]; exact .inl rfl)
    rw [hb] at this
    simp only [if_true] at hzl
    simp only [Go.ChangeShapes.lits, List.length_map, List.length_take, List.length_drop, reachBytes] at this
    omega
/-- Rows of bytes: each value reads as its row. -/
def RowsB (w : World) (vs : List Value) (ls : List (List UInt8)) : Prop :=
  vs.length = ls.length ∧ ∀ (i : Nat) (v : Value), vs[i]? = some v → ∃ l, ls[i]? = some l ∧ Rd w v (bys l) ∧ l.length ≤ 140737488351232
theorem came_rows {H : Type} {enc : TypeId × Value → H} {P : Program} {w : World} {base : Nat} {held : Bool} {t s e : TypeId} {a : Option Addr} {len cap : Nat} {d : DataW H} {ps : List MemPlace}
    (ht : P.underlying t = some (.slice s)) (hs : P.underlying s = some (.slice e)) (he : P.underlying e = some (.int .u8)) (c1 : P.cellsOf s = 1) (ce : P.cellsOf e = 1) (hb : P.bytesOf e = 1)
    (h : DataW.Trod enc P w base (fun _ => true) held t (.slice a len cap) d ps) (hz : ∀ n ∈ d.weights P t, n ≤ reachBytes) : ∃ vs ls, Rd w (.slice a len cap) vs ∧ RowsB w vs ls := by
  obtain ⟨k, hk⟩ := h
  rcases DataW.trod_slice ht hk with ⟨h0, _⟩ | ⟨ad, len', cap', elems, rest, n, _, hcs, hx, _, hl, hm, hlen, hel, _, _⟩
  · simp [Value.cells] at h0
    obtain ⟨rfl, rfl, rfl⟩ := h0
    exact ⟨[], [], Rd.nil w, rfl, by simp⟩
  · simp [Value.cells] at hcs
    obtain ⟨rfl, rfl, rfl⟩ := hcs
    simp only [Prod.mk.injEq] at hx
    obtain ⟨rfl, _⟩ := hx
    have hw : ∀ (A : List (DataW H)) (y : DataW H), y ∈ A → ∀ m ∈ y.weights P s, m ∈ DataW.weightsAll P s A := by
      intro A
      induction A with
      | nil => intro y h; cases h
      | cons z A ih =>
        intro y h m hm
        simp only [DataW.weightsAll, List.mem_append]
        rcases List.mem_cons.1 h with rfl | h
        · exact .inl hm
        · exact .inr (ih y h m hm)
    have each : ∀ i, i < len → ∃ v l, w.cell? (ad.add i) = some v ∧ Rd w v (bys l) ∧ l.length ≤ 140737488351232 := by
      intro i hi
      have hi' : i < elems.length := by omega
      have h1 := hel i hi
      rw [c1, Nat.mul_one, List.getElem?_eq_getElem hi', Option.bind_eq_some_iff] at h1
      obtain ⟨cs', hc, hy⟩ := h1
      obtain ⟨v, l, rfl, hr, hlw⟩ := came_cell hs he ce hy
      refine ⟨v, l, Go.ChangeShapes.cell_of_cells?_one hc, hr, hlw (fun m hm => hz m ?_) hb⟩
      simp only [DataW.weights, ht, List.mem_cons, List.mem_append]
      exact .inr (.inl (hw _ _ (List.mem_map.2 ⟨_, List.getElem_mem hi', rfl⟩) m hm))
    refine ⟨(List.range len).map (fun i => (w.cell? (ad.add i)).getD (.slice none 0 0)), (List.range len).map (fun i => if h : i < len then (each i h).choose_spec.choose else []), ?_, ?_, ?_⟩
    · refine ⟨some ad, cap, by simp, by simp; exact hl, hm, by simp, fun ad' e' i u hu => ?_⟩
      cases e'
      simp only [List.getElem?_map] at hu
      cases hr : (List.range len)[i]? with
      | none => rw [hr] at hu; simp at hu
      | some j =>
        rw [hr] at hu
        have hj := List.getElem?_eq_some_iff.1 hr
        simp at hj
        obtain ⟨hj1, rfl⟩ := hj
        obtain ⟨v, l, hc, _⟩ := each i hj1
        simp [hc] at hu
        rw [← hu]
        exact hc
    · simp
    · intro i v hv
      simp only [List.getElem?_map] at hv
      cases hr : (List.range len)[i]? with
      | none => rw [hr] at hv; simp at hv
      | some j =>
        rw [hr] at hv
        have hj := List.getElem?_eq_some_iff.1 hr
        simp at hj
        obtain ⟨hj1, rfl⟩ := hj
        have hs1 := (each i hj1).choose_spec.choose_spec
        refine ⟨(each i hj1).choose_spec.choose, by simp [hj1], ?_, hs1.2.2⟩
        have : v = (each i hj1).choose := by
          simp only [Option.map_some, Option.some.injEq] at hv
          rw [hs1.1, Option.getD_some] at hv
          exact hv.symm
        rw [this]
        exact hs1.2.1
theorem Rd.range2 {w : World} {b o n cap : Nat} {xs : List Value} (h : Rd w (.slice (some ⟨b, o, none⟩) n cap) xs) : w.rangeAt b o xs := by
  obtain ⟨ao', cap', e, g1, g2, g3, g4⟩ := h
  simp only [Value.slice.injEq] at e
  obtain ⟨e1, _, _⟩ := e
  intro j v hv
  have := g4 ⟨b, o, none⟩ e1.symm j v hv
  rwa [Addr.add_lit] at this
/-- How many bytes, and one more for each row. -/
def tot (ls : List (List UInt8)) : Nat := (ls.map fun l => 1 + l.length).sum
theorem tot_nil : tot [] = 0 := rfl
theorem tot_take {ls : List (List UInt8)} {k : Nat} {l : List UInt8} (h : ls[k]? = some l) : tot (ls.take (k + 1)) = tot (ls.take k) + (1 + l.length) := by
  have hk := (List.getElem?_eq_some_iff.1 h).1
  unfold tot
  rw [List.take_add_one, h]
  simp [List.sum_append]
theorem tot_le (ls : List (List UInt8)) (k : Nat) : tot (ls.take k) ≤ tot ls := by
  unfold tot
  induction ls generalizing k with
  | nil => simp
  | cons l ls ih =>
    cases k with
    | zero => simp
    | succ k =>
      have := ih k
      simp only [List.take_succ_cons, List.map_cons, List.sum_cons]
      omega
theorem rd_own2 {w : World} {v : Value} {l : List UInt8} (h : Rd w v (bys l)) (hl : 0 < l.length) : ∀ b, v.ownBlock = some b → b < w.heap.size := by
  obtain ⟨b0, o, cap, rfl, _, _, hc⟩ := h.posB hl
  intro b hb
  obtain rfl : b0 = b := Option.some.inj hb
  exact World.block_lt_of_cell? w _ (hc 0 hl)
def tx (l : List UInt8) : ByteArray := ⟨l.toArray⟩
theorem tx_list (l : List UInt8) : (tx l).toList = l := ByteArray.toList_mk l
theorem tx_size (l : List UInt8) : (tx l).size = l.length := by rw [← size_toList, tx_list]
end Go.Proofs.YtmmbhmfbhleglaaDoor
