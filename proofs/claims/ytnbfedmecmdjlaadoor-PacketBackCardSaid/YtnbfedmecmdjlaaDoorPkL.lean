/- A []Call that came in, as a row. -/
import Derived.Test.YtnbfedmecmdjlaaDoorPkK
import Derived.Test.YtnbfedmecmdjlaaDoorGa
import Derived.OpenShut
import Derived.WideShapes
import Derived.ChangeSlices
import Derived.ChangeArms
import Derived.Deep.SlicePairs
namespace Go.Proofs.YtnbfedmecmdjlaaDoor
open Go Go.RowKit
theorem i64_wf {z : Int} (h : (Lit.int .i64 z).wf = true) : -9223372036854775808 ≤ z ∧ z ≤ 9223372036854775807 := by
  simp [Lit.wf, IntKind.min, IntKind.max, IntKind.signed, IntKind.bits] at h
  omega
/-- One call, from its four cells. -/
theorem came_one {H : Type} {enc : TypeId × Value → H} {P : Program} {w : World} {base : Nat} {held : Bool} {e u : TypeId} {f0 f1 f2 f3 : Field} {fuel : Nat} {cs : List Value} {D : DataW H} {Pl : List MemPlace}
    (he : P.underlying e = some (.struct #[f0, f1, f2, f3])) (ce : P.cellsOf e = 4) (o0 : f0.offset = 0) (o1 : f1.offset = 1) (o2 : f2.offset = 2) (o3 : f3.offset = 3) (c0 : P.cellsOf f0.type = 1) (c1 : P.cellsOf f1.type = 1) (c2 : P.cellsOf f2.type = 1) (c3 : P.cellsOf f3.type = 1)
    (hi : P.underlying f0.type = some (.int .i64)) (hs : P.underlying f1.type = some (.slice u)) (hu : P.underlying u = some (.int .u8)) (cu : P.cellsOf u = 1) (bu : P.bytesOf u = 1) (ht : P.underlying f2.type = some .string) (hj : P.underlying f3.type = some (.int .i64))
    (h : DataW.trod enc P w base (fun _ => true) held fuel e cs = some (D, Pl)) (hz : ∀ n ∈ D.weights P e, n ≤ reachBytes) :
    ∃ (x : Cq) (dv : Value), cs = [.int .i64 x.kind, dv, .string x.draw, .int .i64 x.num] ∧ Rd w dv (bys x.data) ∧ x.data.length ≤ 140737488351232 ∧ x.draw.size ≤ 140737488351232 ∧ -9223372036854775808 ≤ x.num ∧ x.num ≤ 9223372036854775807 := by
  obtain ⟨xs, k, _, hxy, hcl, hxl, hf⟩ := DataW.trod_struct he h
  rw [ce] at hcl
  match xs, hxl, cs, hcl with
  | [y0, y1, y2, y3], _, [v0, v1, v2, v3], _ =>
    have g0 := hf 0 f0 rfl
    have g1 := hf 1 f1 rfl
    have g2 := hf 2 f2 rfl
    have g3 := hf 3 f3 rfl
    simp [o0, o1, o2, o3, c0, c1, c2, c3] at g0 g1 g2 g3
    obtain ⟨z0, e0, _, _⟩ := DataW.trod_int hi g0
    obtain ⟨dv, l, e1, hr, hlw⟩ := came_cell hs hu cu g1
    obtain ⟨s, e2, x2, _⟩ := DataW.trod_string ht g2
    obtain ⟨z3, e3, _, hw3⟩ := DataW.trod_int hj g3
    simp only [List.cons.injEq, and_true] at e0 e1 e2 e3
    subst e0 e1 e2 e3
    simp only [Prod.mk.injEq] at hxy
    obtain ⟨rfl, -⟩ := hxy
    obtain ⟨b1, b2⟩ := i64_wf hw3
    have hzd : ∀ n ∈ y1.1.weights P f1.type, n ≤ reachBytes := fun q hq => hz q (by
      simp only [DataW.weights, he, DataW.weightsEach, List.map_cons, List.map_nil, List.mem_append]
      exact .inr (.inl hq))
    have hzs : ∀ n ∈ y2.1.weights P f2.type, n ≤ reachBytes := fun q hq => hz q (by
      simp only [DataW.weights, he, DataW.weightsEach, List.map_cons, List.map_nil, List.mem_append]
      exact .inr (.inr (.inl hq)))
    subst x2
    exact ⟨⟨z0, l, s, z3⟩, _, rfl, hr, hlw hzd bu, came_str hzs, b1, b2⟩
theorem came_callsQ {H : Type} {enc : TypeId × Value → H} {P : Program} {w : World} {base : Nat} {held : Bool} {t e u : TypeId} {f0 f1 f2 f3 : Field} {a : Option Addr} {len cap : Nat} {d : DataW H} {ps : List MemPlace}
    (ht : P.underlying t = some (.slice e)) (he : P.underlying e = some (.struct #[f0, f1, f2, f3])) (ce : P.cellsOf e = 4) (o0 : f0.offset = 0) (o1 : f1.offset = 1) (o2 : f2.offset = 2) (o3 : f3.offset = 3) (c0 : P.cellsOf f0.type = 1) (c1 : P.cellsOf f1.type = 1) (c2 : P.cellsOf f2.type = 1) (c3 : P.cellsOf f3.type = 1)
    (hi : P.underlying f0.type = some (.int .i64)) (hs : P.underlying f1.type = some (.slice u)) (hu : P.underlying u = some (.int .u8)) (cu : P.cellsOf u = 1) (bu : P.bytesOf u = 1) (hst : P.underlying f2.type = some .string) (hj : P.underlying f3.type = some (.int .i64))
    (h : DataW.Trod enc P w base (fun _ => true) held t (.slice a len cap) d ps) (hz : ∀ n ∈ d.weights P t, n ≤ reachBytes) : ∃ ls, CallsQ w (.slice a len cap) ls := by
  obtain ⟨k, hk⟩ := h
  rcases Go.Deep.open_slice ht hk with ⟨h0, _⟩ | ⟨ad, len', cap', m, n, D, Pl, hcs, _, hl, hm, hmm, hx, hel⟩
  · simp [Value.cells] at h0
    obtain ⟨rfl, rfl, rfl⟩ := h0
    exact ⟨[], ⟨none, 0, rfl, Nat.le_refl _, by decide, fun i x hx => by simp at hx⟩⟩
  · simp [Value.cells] at hcs
    obtain ⟨rfl, rfl, rfl⟩ := hcs
    simp only [Prod.mk.injEq] at hx
    obtain ⟨rfl, _⟩ := hx
    simp only [if_true] at hmm
    have hw : ∀ (A : List (DataW H)) (y : DataW H), y ∈ A → ∀ m ∈ y.weights P e, m ∈ DataW.weightsAll P e A := by
      intro A
      induction A with
      | nil => intro y h; cases h
      | cons z A ih =>
        intro y h m hm
        simp only [DataW.weightsAll, List.mem_append]
        rcases List.mem_cons.1 h with rfl | h
        · exact .inl hm
        · exact .inr (ih y h m hm)
    have each : ∀ i, i < len → ∃ q : Cq, ∃ dv, w.cell? (ad.add (i * 4)) = some (.int .i64 q.kind) ∧ w.cell? (ad.add (i * 4 + 1)) = some dv ∧ Rd w dv (bys q.data) ∧ w.cell? (ad.add (i * 4 + 2)) = some (.string q.draw) ∧ w.cell? (ad.add (i * 4 + 3)) = some (.int .i64 q.num) ∧
        q.data.length ≤ 140737488351232 ∧ q.draw.size ≤ 140737488351232 ∧ -9223372036854775808 ≤ q.num ∧ q.num ≤ 9223372036854775807 := by
      intro i hii
      obtain ⟨cs', hc, hd⟩ := hel i (by omega)
      rw [ce] at hc
      obtain ⟨_, _, hat⟩ := World.cells?_some hc
      obtain ⟨x, dv, rfl, hr, hb⟩ := came_one he ce o0 o1 o2 o3 c0 c1 c2 c3 hi hs hu cu bu hst hj hd (fun q hq => hz q (by
        simp only [DataW.weights, ht, List.mem_cons, List.mem_append]
        exact .inr (.inl (hw _ (D i) (List.mem_map.2 ⟨i, List.mem_range.2 hii, rfl⟩) q hq))))
      have k0 := hat 0 (by decide)
      have k1 := hat 1 (by decide)
      have k2 := hat 2 (by decide)
      have k3 := hat 3 (by decide)
      rw [Go.Deep.add_add] at k0 k1 k2 k3
      exact ⟨x, dv, k0, k1, hr, k2, k3, hb⟩
    refine ⟨(List.range len).map (fun i => if h : i < len then (each i h).choose else ⟨0, [], .empty, 0⟩), ⟨some ad, cap, by simp, by simpa using hl, by unfold maxLen at hm; omega, fun i x hx => ?_⟩⟩
    have hil : i < len := by
      have := (List.getElem?_eq_some_iff.1 hx).1
      simpa using this
    simp only [List.getElem?_map, List.getElem?_range hil, Option.map_some, dif_pos hil, Option.some.injEq] at hx
    obtain ⟨dv, g1, g2, g3, g4, g5, g6⟩ := (each i hil).choose_spec
    rw [hx] at g1 g3 g4 g5 g6
    obtain ⟨p0, _, hp0, _⟩ := each 0 (by omega)
    rw [Nat.zero_mul] at hp0
    have e0 := addr_eta hp0
    rw [e0, Addr.add_lit] at g1 g2 g4 g5
    exact ⟨ad.block, ad.off, dv, by rw [← e0], g1, g2, g3, g4, g5, g6⟩
end Go.Proofs.YtnbfedmecmdjlaaDoor
