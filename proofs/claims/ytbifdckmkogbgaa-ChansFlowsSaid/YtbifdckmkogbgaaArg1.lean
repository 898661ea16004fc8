/- An array of bytes that came in by value. -/
import Derived.Test.YtbifdckmkogbgaaLib
import Derived.OpenShut
import Derived.WideShapes
namespace Go.Proofs.Ytbifdckmkogbgaa
open Go Go.RowKit
def byteOf1 : Value → UInt8
  | .int _ z => UInt8.ofNat z.toNat
  | _ => 0
theorem byteOf1_ok {z : Int} (h : 0 ≤ z ∧ z ≤ 255) : Value.int .u8 ((byteOf1 (.int .u8 z)).toNat : Int) = .int .u8 z := by
  rw [byteOf1, UInt8.toNat_ofNat']
  congr 1
  omega
theorem came_arr1 {H : Type} {enc : TypeId × Value → H} {P : Program} {w : World} {sp : Nat → Bool} {held : Bool} {r : Reach} {b0 : Nat} {t f : TypeId} {n : Nat} {v : Value} {d : DataW H} {ps : List MemPlace}
    (ht : P.underlying t = some (.array n f)) (hf : P.underlying f = some (.int .u8)) (c1 : P.cellsOf f = 1) (c2 : P.cellsOf t = n)
    (hval : Value.okWide P w r b0 t v) (h : DataW.Trod enc P w 0 sp held t v d ps) : ∃ L : List UInt8, L.length = n ∧ v = .agg (bys L).toArray := by
  simp only [Value.okWide, ht] at hval
  obtain ⟨cs, rfl, hsz, _⟩ := hval
  obtain ⟨k, hk⟩ := h
  obtain ⟨xs, k1, rfl, _, hl, hxl, hx⟩ := DataW.trod_array ht hk
  rw [c2] at hl
  simp only [Value.cells] at hl hx
  have all : ∀ i, i < n → ∃ z : Int, cs.toList[i]? = some (.int .u8 z) ∧ 0 ≤ z ∧ z ≤ 255 := by
    intro i hi
    have h1 := hx i hi
    rw [c1, List.getElem?_eq_getElem (show i < xs.length by omega)] at h1
    obtain ⟨z, hc, _, hw⟩ := DataW.trod_int hf h1
    refine ⟨z, ?_, bounds_u8 hw⟩
    have h3 := congrArg (fun l : List Value => l[0]?) hc
    simp only [List.getElem?_cons_zero, Nat.mul_one] at h3
    rw [List.getElem?_take, if_pos (by omega), List.getElem?_drop] at h3
    rw [← h3]
    congr 1
  refine ⟨cs.toList.map byteOf1, by rw [List.length_map]; exact hl, ?_⟩
  congr 1
  apply Array.ext'
  simp only [bys, List.map_map]
  refine (List.ext_getElem? fun i => ?_)
  by_cases hi : i < n
  · obtain ⟨z, hz, hb⟩ := all i hi
    rw [List.getElem?_map, hz, Option.map_some]
    exact congrArg some (byteOf1_ok hb).symm
  · rw [List.getElem?_eq_none (by omega), List.getElem?_eq_none (by simp at hl ⊢; omega)]
end Go.Proofs.Ytbifdckmkogbgaa
