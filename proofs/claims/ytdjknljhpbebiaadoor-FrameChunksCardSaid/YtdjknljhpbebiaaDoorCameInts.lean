/- A []int that came in. -/
import Derived.Test.YtdjknljhpbebiaaDoorFrame
namespace Go.Proofs.YtdjknljhpbebiaaDoor
open Go Go.RowKit
def ints (l : List Int) : List Value := l.map (Value.int .i64)
theorem ints_len (l : List Int) : (ints l).length = l.length := by simp [ints]
theorem Rd.shapeI {w : World} {v : Value} {l : List Int} (h : Rd w v (ints l)) : ∃ ao cap, v = .slice ao l.length cap ∧ l.length ≤ cap ∧ cap ≤ 9223372036854775807 ∧ (ao = none → cap = 0) := by
  obtain ⟨ao, cap, h0, h1, h2, h3⟩ := h.shape
  rw [ints_len] at h0 h1
  exact ⟨ao, cap, h0, h1, h2, h3⟩
theorem Rd.posI {w : World} {v : Value} {l : List Int} (h : Rd w v (ints l)) (hx : 0 < l.length) :
    ∃ b o cap, v = .slice (some ⟨b, o, none⟩) l.length cap ∧ l.length ≤ cap ∧ cap ≤ 9223372036854775807 ∧ ∀ i (hi : i < l.length), w.cell? ⟨b, o + i, none⟩ = some (.int .i64 (l[i]'hi)) := by
  obtain ⟨b, o, cap, h0, h1, h2, h3⟩ := h.pos (by rw [ints_len]; exact hx)
  rw [ints_len] at h0 h1
  refine ⟨b, o, cap, h0, h1, h2, fun i hi => ?_⟩
  rw [h3 i (by rw [ints_len]; exact hi)]
  simp [ints]
section
variable {H : Type} {enc : TypeId × Value → H} {P : Program} {w : World} {base : Nat} {spare : Nat → Bool} {held : Bool}
theorem came_ints {t e : TypeId} {a : Option Addr} {len cap : Nat} {d : DataW H} {ps : List MemPlace} (ht : P.underlying t = some (.slice e)) (he : P.underlying e = some (.int .i64)) (hc : P.cellsOf e = 1)
    (h : DataW.Trod enc P w base (fun _ => true) held t (.slice a len cap) d ps) : ∃ l : List Int, l.length = len ∧ Rd w (.slice a len cap) (ints l) := by
  obtain ⟨fuel, hf⟩ := h
  rcases Go.ChangeShapes.open_ints ht he hc hf with ⟨hcs, _⟩ | ⟨x, l, c, zs, hcs, _, hl, hm, hzl, hx, hcell, hwz⟩
  · simp [Value.cells] at hcs
    obtain ⟨rfl, rfl, rfl⟩ := hcs
    exact ⟨[], rfl, Rd.nil w⟩
  · simp [Value.cells] at hcs
    obtain ⟨rfl, rfl, rfl⟩ := hcs
    simp only [if_true] at hzl
    refine ⟨zs.take len, by rw [List.length_take]; omega, some x, cap, by rw [ints_len, List.length_take, Nat.min_eq_left (by omega)], by rw [ints_len, List.length_take]; omega, hm, by simp, fun ad e' i u hu => ?_⟩
    cases e'
    have hi : i < len := by
      have := (List.getElem?_eq_some_iff.1 hu).1
      rw [ints_len, List.length_take] at this
      omega
    have hs : i < zs.length := by omega
    rw [hcell i hs, ← hu]
    simp only [ints, List.getElem?_map, List.getElem?_take, if_pos hi, List.getElem?_eq_getElem hs, Option.map_some]
    congr 2
    rw [List.getD_eq_getElem?_getD, List.getElem?_eq_getElem hs]
    rfl
theorem own_came {t e : TypeId} {a : Option Addr} {len cap : Nat} (ht : P.underlying t = some (.slice e)) (h : Value.okWide P w .any base t (.slice a len cap)) : ∀ g, (Value.slice a len cap).ownBlock = some g → g < w.heap.size := by
  intro g hg
  cases a with
  | none => simp [Value.ownBlock] at hg
  | some ad =>
    unfold Value.okWide at h
    rw [ht] at h
    simp only [Cell.okWide, Cell.ok, ht, World.has] at h
    obtain ⟨_, _, _, _, row, cells, hs, _⟩ := h
    have e : g = ad.block := by simp [Value.ownBlock] at hg; omega
    subst e
    unfold World.shape? at hs
    cases hh : w.heap[ad.block]? with
    | none => rw [hh] at hs; simp at hs
    | some o => exact (Array.getElem?_eq_some_iff.1 hh).1
end
end Go.Proofs.YtdjknljhpbebiaaDoor
