/- What the card's condition tells of the program's table; an array of two slices, a slice of slices, that came in. -/
import Derived.Test.YtomlednobmaaeaaDoorRows
import Derived.Test.YtomlednobmaaeaaDoorCiA
import Derived.Test.YtomlednobmaaeaaDoorFrame
import Derived.Test.YtomlednobmaaeaaDoorArg1
import Derived.Lib.LaidTab
import Derived.MakeChecks
import Derived.OpenShut
import Derived.WideShapes
import Derived.ChangeSlices
namespace Go.Proofs.YtomlednobmaaeaaDoor
open Go Go.RowKit
theorem sqr_of_laid {W : World} (h : laidMetH Tryd.prog [("tabulary/cipher.squareOf", Rows.laid_tabulary_cipher_squareOf)] W) : Sqr W := by
  rw [MakeChecks.laidMetH_plain _ _ _ rfl] at h
  have ht : Lib.TabIs Tryd.prog W "tabulary/cipher.squareOf" .u64 sqZ :=
    Lib.tabIs_of_head (P := Tryd.prog) (zs := sqZ) (rest := []) (g := 0) (t := 66) (e := 58) (n := 8) (by kernel_rfl) (by kernel_rfl) Tryd.underlying66 Tryd.underlying58 (by kernel_rfl) (by kernel_rfl) h
  intro j v hv
  have hj : j < sqZ.length := by have := (List.getElem?_eq_some_iff.1 hv).1; rwa [kis_len] at this
  have := ht.cell (g := 0) (by kernel_rfl) j hj
  rw [Nat.zero_add, this, ← hv]
  simp only [kis, List.getElem?_map, List.getElem?_eq_getElem hj, Option.map_some, List.getD_eq_getElem?_getD, Option.getD_some]
/-- A []byte that came in, as a cell of something. -/
theorem came_cell {H : Type} {enc : TypeId × Value → H} {P : Program} {w : World} {base : Nat} {held : Bool} {s e : TypeId} {fuel : Nat} {cs : List Value} {x : DataW H × List MemPlace}
    (hs : P.underlying s = some (.slice e)) (he : P.underlying e = some (.int .u8)) (ce : P.cellsOf e = 1)
    (h : DataW.trod enc P w base (fun _ => true) held fuel s cs = some x) : ∃ v l, cs = [v] ∧ Rd w v (bys l) ∧ ((∀ n ∈ x.1.weights P s, n ≤ reachBytes) → P.bytesOf e = 1 → l.length ≤ 140737488351232) := by
  rcases Go.ChangeShapes.open_ints hs he ce h with ⟨hcs, _⟩ | ⟨a, l, c, zs, hcs, _, hl, hm, hzl, hx, hcell, hwz⟩
  · exact ⟨_, [], hcs, Rd.nil w, fun _ _ => by simp⟩
  · obtain ⟨m, h1, h2⟩ := rd_row (zs := zs) (.inr ⟨_, rfl, hl, hm, by simpa using hzl, hcell, hwz⟩)
    refine ⟨_, m, hcs, h2, fun hz hb => ?_⟩
    subst hx
    have := hz _ (by simp only [DataW.weights, hs, List.mem_cons]; exact .inl rfl)
    rw [hb] at this
    simp only [if_true] at hzl
    simp only [Go.ChangeShapes.lits, List.length_map, List.length_take, List.length_drop, reachBytes] at this
    omega
theorem came_two {H : Type} {enc : TypeId × Value → H} {P : Program} {w : World} {held : Bool} {r : Reach} {b0 b1 : Nat} {t s e : TypeId} {v : Value} {d : DataW H} {ps : List MemPlace}
    (ht : P.underlying t = some (.array 2 s)) (hs : P.underlying s = some (.slice e)) (he : P.underlying e = some (.int .u8)) (c1 : P.cellsOf s = 1) (c2 : P.cellsOf t = 2) (ce : P.cellsOf e = 1)
    (hval : Value.okWide P w r b0 t v) (h : DataW.Trod enc P w b1 (fun _ => true) held t v d ps) : ∃ va vb la lb, v = .agg #[va, vb] ∧ Rd w va (bys la) ∧ Rd w vb (bys lb) := by
  simp only [Value.okWide, ht] at hval
  obtain ⟨cs, rfl, hsz, _⟩ := hval
  obtain ⟨k, hk⟩ := h
  obtain ⟨xs, k1, rfl, _, hl, hxl, hx⟩ := DataW.trod_array ht hk
  rw [c2] at hl
  simp only [Value.cells] at hl hx
  have h0 := hx 0 (by omega)
  have h1 := hx 1 (by omega)
  rw [c1, List.getElem?_eq_getElem (show 0 < xs.length by omega)] at h0
  rw [c1, List.getElem?_eq_getElem (show 1 < xs.length by omega)] at h1
  obtain ⟨va, la, e0, ra, _⟩ := came_cell hs he ce h0
  obtain ⟨vb, lb, e1, rb, _⟩ := came_cell hs he ce h1
  refine ⟨va, vb, la, lb, ?_, ra, rb⟩
  congr 1
  apply Array.ext'
  have hl2 : cs.toList.length = 2 := hl
  generalize cs.toList = l at *
  match l, hl2 with
  | [a, b], _ =>
    simp at e0 e1
    rw [e0, e1]
/-- Rows of bytes: each value reads as its row. -/
def RowsB (w : World) (vs : List Value) (ls : List (List UInt8)) : Prop :=
  vs.length = ls.length ∧ ∀ (i : Nat) (v : Value), vs[i]? = some v → ∃ l, ls[i]? = some l ∧ Rd w v (bys l) ∧ l.length ≤ 140737488351232
theorem came_rows {H : Type} {enc : TypeId × Value → H} {P : Program} {w : World} {base : Nat} {held : Bool} {t s e : TypeId} {a : Option Addr} {len cap : Nat} {d : DataW H} {ps : List MemPlace}
    (ht : P.underlying t = some (.slice s)) (hs : P.underlying s = some (.slice e)) (he : P.underlying e = some (.int .u8)) (c1 : P.cellsOf s = 1) (ce : P.cellsOf e = 1) (hb : P.bytesOf e = 1)
    (h : DataW.Trod enc P w base (fun _ => true) held t (.slice a len cap) d ps) (hz : ∀ n ∈ d.weights P t, n ≤ reachBytes) : ∃ vs ls, Rd w (.slice a len cap) vs ∧ RowsB w vs ls := by
  obtain ⟨k, hk⟩ := h
  rcases DataW.trod_slice ht hk with ⟨h0, _⟩ | ⟨ad, len', cap', elems, rest, n, _, hcs, hx, _, hl, hm, hlen, hel, _, _⟩
  · simp [Value.cells] at h0
    obtain ⟨rfl, rfl, rfl⟩ := h0
    exact ⟨[], [], Rd.nil w, rfl, by simp⟩
  · simp [Value.cells] at hcs
    obtain ⟨rfl, rfl, rfl⟩ := hcs
    simp only [Prod.mk.injEq] at hx
    obtain ⟨rfl, _⟩ := hx
    have hw : ∀ (A : List (DataW H)) (y : DataW H), y ∈ A → ∀ m ∈ y.weights P s, m ∈ DataW.weightsAll P s A := by
      intro A
      induction A with
      | nil => intro y h; cases h
      | cons z A ih =>
        intro y h m hm
        simp only [DataW.weightsAll, List.mem_append]
        rcases List.mem_cons.1 h with rfl | h
        · exact .inl hm
        · exact .inr (ih y h m hm)
    have each : ∀ i, i < len → ∃ v l, w.cell? (ad.add i) = some v ∧ Rd w v (bys l) ∧ l.length ≤ 140737488351232 := by
      intro i hi
      have hi' : i < elems.length := by omega
      have h1 := hel i hi
      rw [c1, Nat.mul_one, List.getElem?_eq_getElem hi', Option.bind_eq_some_iff] at h1
      obtain ⟨cs', hc, hy⟩ := h1
      obtain ⟨v, l, rfl, hr, hlw⟩ := came_cell hs he ce hy
      refine ⟨v, l, Go.ChangeShapes.cell_of_cells?_one hc, hr, hlw (fun m hm => hz m ?_) hb⟩
      simp only [DataW.weights, ht, List.mem_cons, List.mem_append]
      exact .inr (.inl (hw _ _ (List.mem_map.2 ⟨_, List.getElem_mem hi', rfl⟩) m hm))
    refine ⟨(List.range len).map (fun i => (w.cell? (ad.add i)).getD (.slice none 0 0)), (List.range len).map (fun i => if h : i < len then (each i h).choose_spec.choose else []), ?_, ?_, ?_⟩
    · refine ⟨some ad, cap, by simp, by simp; exact hl, hm, by simp, fun ad' e' i u hu => ?_⟩
      cases e'
      simp only [List.getElem?_map] at hu
      cases hr : (List.range len)[i]? with
      | none => rw [hr] at hu; simp at hu
      | some j =>
        rw [hr] at hu
        have hj := List.getElem?_eq_some_iff.1 hr
        simp at hj
        obtain ⟨hj1, rfl⟩ := hj
        obtain ⟨v, l, hc, _⟩ := each i hj1
        simp [hc] at hu
        rw [← hu]
        exact hc
    · simp
    · intro i v hv
      simp only [List.getElem?_map] at hv
      cases hr : (List.range len)[i]? with
      | none => rw [hr] at hv; simp at hv
      | some j =>
        rw [hr] at hv
        have hj := List.getElem?_eq_some_iff.1 hr
        simp at hj
        obtain ⟨hj1, rfl⟩ := hj
        have hs1 := (each i hj1).choose_spec.choose_spec
        refine ⟨(each i hj1).choose_spec.choose, by simp [hr, hj1], ?_, hs1.2.2⟩
        have : v = (each i hj1).choose := by
          simp only [Option.map_some, Option.some.injEq] at hv
          rw [hs1.1, Option.getD_some] at hv
          exact hv.symm
        rw [this]
        exact hs1.2.1
end Go.Proofs.YtomlednobmaaeaaDoor
