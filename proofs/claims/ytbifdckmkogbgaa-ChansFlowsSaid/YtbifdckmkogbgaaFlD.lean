/- A []struct { int; []byte } that came in, as a row of calls. -/
import Derived.Test.YtbifdckmkogbgaaFlA
import Derived.Test.YtbifdckmkogbgaaFrame
import Derived.Test.YtbifdckmkogbgaaArg1
import Derived.OpenShut
import Derived.WideShapes
import Derived.ChangeSlices
import Derived.ChangeArms
import Derived.Deep.SlicePairs
namespace Go.Proofs.Ytbifdckmkogbgaa
open Go Go.RowKit
/-- A []byte that came in, as a cell of something. -/
theorem came_cell {H : Type} {enc : TypeId × Value → H} {P : Program} {w : World} {base : Nat} {held : Bool} {s e : TypeId} {fuel : Nat} {cs : List Value} {x : DataW H × List MemPlace}
    (hs : P.underlying s = some (.slice e)) (he : P.underlying e = some (.int .u8)) (ce : P.cellsOf e = 1)
    (h : DataW.trod enc P w base (fun _ => true) held fuel s cs = some x) : ∃ v l, cs = [v] ∧ Rd w v (bys l) ∧ ((∀ n ∈ x.1.weights P s, n ≤ reachBytes) → P.bytesOf e = 1 → l.length ≤ 140737488351232) := by
  rcases Go.ChangeShapes.open_ints hs he ce h with ⟨hcs, _⟩ | ⟨a, l, c, zs, hcs, _, hl, hm, hzl, hx, hcell, hwz⟩
  · exact ⟨_, [], hcs, Rd.nil w, fun _ _ => by simp⟩
  · obtain ⟨m, h1, h2⟩ := rd_row (zs := zs) (.inr ⟨_, rfl, hl, hm, by simpa using hzl, hcell, hwz⟩)
    refine ⟨_, m, hcs, h2, fun hz hb => ?_⟩
    subst hx
    have := hz _ (by simp only [DataW.weights, hs, List.mem_cons]; exact .inl rfl)
    rw [hb] at this
    simp only [if_true] at hzl
    simp only [Go.ChangeShapes.lits, List.length_map, List.length_take, List.length_drop, reachBytes] at this
    omega
theorem came_calls {H : Type} {enc : TypeId × Value → H} {P : Program} {w : World} {base : Nat} {held : Bool} {t e u : TypeId} {f0 f1 : Field} {a : Option Addr} {len cap : Nat} {d : DataW H} {ps : List MemPlace}
    (ht : P.underlying t = some (.slice e)) (he : P.underlying e = some (.struct #[f0, f1])) (ce : P.cellsOf e = 2) (o0 : f0.offset = 0) (o1 : f1.offset = 1) (c0 : P.cellsOf f0.type = 1) (c1 : P.cellsOf f1.type = 1)
    (hi : P.underlying f0.type = some (.int .i64)) (hs : P.underlying f1.type = some (.slice u)) (hu : P.underlying u = some (.int .u8)) (cu : P.cellsOf u = 1) (bu : P.bytesOf u = 1)
    (h : DataW.Trod enc P w base (fun _ => true) held t (.slice a len cap) d ps) (hz : ∀ n ∈ d.weights P t, n ≤ reachBytes) : ∃ ls, CallsR w (.slice a len cap) ls := by
  obtain ⟨k, hk⟩ := h
  rcases Go.Deep.open_slice_pairs ht he ce o0 o1 c0 c1 hk with ⟨h0, _⟩ | ⟨ad, len', cap', m, n, V0, V1, D0, D1, P0, P1, hcs, _, hl, hm, hmm, hx, hel⟩
  · simp [Value.cells] at h0
    obtain ⟨rfl, rfl, rfl⟩ := h0
    exact ⟨[], ⟨none, 0, rfl, Nat.le_refl _, by decide, fun i x hx => by simp at hx⟩⟩
  · simp [Value.cells] at hcs
    obtain ⟨rfl, rfl, rfl⟩ := hcs
    simp only [Prod.mk.injEq] at hx
    obtain ⟨rfl, _⟩ := hx
    simp only [if_true] at hmm
    have hw : ∀ (A : List (DataW H)) (y : DataW H), y ∈ A → ∀ m ∈ y.weights P e, m ∈ DataW.weightsAll P e A := by
      intro A
      induction A with
      | nil => intro y h; cases h
      | cons z A ih =>
        intro y h m hm
        simp only [DataW.weightsAll, List.mem_append]
        rcases List.mem_cons.1 h with rfl | h
        · exact .inl hm
        · exact .inr (ih y h m hm)
    have each : ∀ i, i < len → ∃ q : Int × List UInt8, w.cell? (ad.add (i * 2)) = some (.int .i64 q.1) ∧ ∃ dv, w.cell? (ad.add (i * 2 + 1)) = some dv ∧ Rd w dv (bys q.2) ∧ q.2.length ≤ 140737488351232 := by
      intro i hii
      obtain ⟨g1, g2, g3, g4⟩ := hel i (by omega)
      obtain ⟨z, hz1, _, _⟩ := DataW.trod_int hi g3
      obtain ⟨v, l, hv, hr, hlw⟩ := came_cell hs hu cu g4
      simp only [List.cons.injEq, and_true] at hz1 hv
      rw [hz1] at g1
      rw [hv] at g2
      refine ⟨(z, l), g1, v, g2, hr, hlw (fun q hq => hz q ?_) bu⟩
      simp only [DataW.weights, ht, List.mem_cons, List.mem_append]
      refine .inr (.inl (hw _ (.agg [D0 i, D1 i]) (List.mem_map.2 ⟨i, List.mem_range.2 hii, rfl⟩) q ?_))
      simp only [DataW.weights, he, DataW.weightsEach, List.map_cons, List.map_nil, List.mem_append]
      exact .inr (.inl hq)
    refine ⟨(List.range len).map (fun i => if h : i < len then (each i h).choose else (0, [])), ⟨some ad, cap, by simp, by simpa using hl, by unfold maxLen at hm; omega, fun i x hx => ?_⟩⟩
    have hil : i < len := by
      have := (List.getElem?_eq_some_iff.1 hx).1
      simpa using this
    simp only [List.getElem?_map, List.getElem?_range hil, Option.map_some, dif_pos hil, Option.some.injEq] at hx
    obtain ⟨g1, dv, g2, g3, g4⟩ := (each i hil).choose_spec
    rw [hx] at g1 g3 g4
    obtain ⟨p0, hp0, _⟩ := each 0 (by omega)
    rw [Nat.zero_mul] at hp0
    have e0 := addr_eta hp0
    rw [e0, Addr.add_lit] at g1 g2
    exact ⟨ad.block, ad.off, dv, by rw [← e0], g1, g2, g3, g4⟩
end Go.Proofs.Ytbifdckmkogbgaa
