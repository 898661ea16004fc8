/- An array of arrays of bytes that came in by value. -/
import Derived.Test.YtjfphmmhikamaaaLib
import Derived.OpenShut
import Derived.WideShapes
namespace Go.Proofs.Ytjfphmmhikamaaa
open Go Go.RowKit
def byteOf : Value → UInt8
  | .int _ z => UInt8.ofNat z.toNat
  | _ => 0
theorem byteOf_ok {z : Int} (h : 0 ≤ z ∧ z ≤ 255) : Value.int .u8 ((byteOf (.int .u8 z)).toNat : Int) = .int .u8 z := by
  rw [byteOf, UInt8.toNat_ofNat']
  congr 1
  omega
theorem came_arr {H : Type} {enc : TypeId × Value → H} {P : Program} {w : World} {sp : Nat → Bool} {held : Bool} {r : Reach} {b0 : Nat} {t e f : TypeId} {m n : Nat} {v : Value} {d : DataW H} {ps : List MemPlace}
    (ht : P.underlying t = some (.array m e)) (he : P.underlying e = some (.array n f)) (hf : P.underlying f = some (.int .u8)) (c1 : P.cellsOf f = 1) (c2 : P.cellsOf e = n) (c3 : P.cellsOf t = m * n)
    (hval : Value.okWide P w r b0 t v) (h : DataW.Trod enc P w 0 sp held t v d ps) : ∃ L : List UInt8, L.length = m * n ∧ v = .agg (bys L).toArray := by
  simp only [Value.okWide, ht] at hval
  obtain ⟨cs, rfl, hsz, _⟩ := hval
  obtain ⟨k, hk⟩ := h
  obtain ⟨xs, k1, rfl, _, hl, hxl, hx⟩ := DataW.trod_array ht hk
  rw [c3] at hl
  simp only [Value.cells] at hl hx
  have all : ∀ i, i < m * n → ∃ z : Int, cs.toList[i]? = some (.int .u8 z) ∧ 0 ≤ z ∧ z ≤ 255 := by
    intro i hi
    have hn : 0 < n := by
      rcases Nat.eq_zero_or_pos n with h | h
      · subst h; simp at hi
      · exact h
    have hq : i / n < m := Nat.div_lt_of_lt_mul (by rwa [Nat.mul_comm] at hi)
    have h1 := hx (i / n) hq
    rw [c2, List.getElem?_eq_getElem (show i / n < xs.length by omega)] at h1
    obtain ⟨ys, k2, rfl, _, hl2, hyl, hy⟩ := DataW.trod_array he h1
    have hr : i % n < n := Nat.mod_lt _ hn
    have h2 := hy (i % n) hr
    rw [c1, List.getElem?_eq_getElem (show i % n < ys.length by omega)] at h2
    obtain ⟨z, hc, _, hw⟩ := DataW.trod_int hf h2
    refine ⟨z, ?_, bounds_u8 hw⟩
    have h3 := congrArg (fun l : List Value => l[0]?) hc
    simp only [List.getElem?_cons_zero, Nat.mul_one] at h3
    rw [List.getElem?_take, if_pos (by omega), List.getElem?_drop, List.getElem?_take, if_pos (by omega), List.getElem?_drop] at h3
    rw [← h3]
    congr 1
    have := Nat.div_add_mod i n
    rw [Nat.mul_comm] at this
    omega
  refine ⟨cs.toList.map byteOf, by rw [List.length_map]; exact hl, ?_⟩
  congr 1
  apply Array.ext'
  simp only [bys, List.map_map]
  refine (List.ext_getElem? fun i => ?_)
  by_cases hi : i < m * n
  · obtain ⟨z, hz, hb⟩ := all i hi
    rw [List.getElem?_map, hz, Option.map_some]
    exact congrArg some (byteOf_ok hb).symm
  · rw [List.getElem?_eq_none (by omega), List.getElem?_eq_none (by simp at hl ⊢; omega)]
end Go.Proofs.Ytjfphmmhikamaaa
