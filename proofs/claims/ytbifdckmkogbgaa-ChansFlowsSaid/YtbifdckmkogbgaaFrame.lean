/- What a claim's frame tells of arguments: readings and bounds. -/
import Derived.ProofKit
import Derived.OpenShut
import Derived.ShutString
import Derived.ChangeOld
import Derived.SliceStrings
import Derived.SizedLaws
import Derived.Test.YtbifdckmkogbgaaLib
namespace Go.Proofs.Ytbifdckmkogbgaa
open Go Go.RowKit

section
variable {H : Type} {enc : TypeId × Value → H} {P : Program} {w : World} {base : Nat} {spare : Nat → Bool} {held : Bool}
/-- The reach, datum by datum. -/
theorem reach_at {ts : List TypeId} {ds : List (DataW H)} (hsz : (DataW.weightsEach P ts ds).all (· ≤ reachBytes) = true) {j : Nat} {t : TypeId} {d : DataW H} (ht : ts[j]? = some t) (hd : ds[j]? = some d) : ∀ n ∈ d.weights P t, n ≤ reachBytes := fun n hn => by
  have := List.all_eq_true.1 hsz _ (DataW.weights_mem_each ht hd n hn)
  simpa using this

/-- A []byte that came in. -/
theorem came_bytes {t e : TypeId} {a : Option Addr} {len cap : Nat} {d : DataW H} {ps : List MemPlace} (ht : P.underlying t = some (.slice e)) (he : P.underlying e = some (.int .u8)) (hc : P.cellsOf e = 1) (hb : P.bytesOf e = 1)
    (h : DataW.Trod enc P w base (fun _ => true) held t (.slice a len cap) d ps) (hz : ∀ n ∈ d.weights P t, n ≤ reachBytes) : ∃ l : List UInt8, l.length = len ∧ l.length ≤ 140737488351232 ∧ Rd w (.slice a len cap) (bys l) := by
  obtain ⟨fuel, hf⟩ := h
  rcases Go.ChangeShapes.open_ints ht he hc hf with ⟨hcs, _⟩ | ⟨x, l, c, zs, hcs, _, hl, hm, hzl, hx, hcell, hwz⟩
  · simp [Value.cells] at hcs
    obtain ⟨rfl, rfl, rfl⟩ := hcs
    obtain ⟨l, h1, h2⟩ := rd_row (w := w) (zs := []) (.inl ⟨rfl, rfl, rfl, rfl⟩)
    exact ⟨l, h1, by omega, h2⟩
  · simp [Value.cells] at hcs
    obtain ⟨rfl, rfl, rfl⟩ := hcs
    obtain ⟨m, h1, h2⟩ := rd_row (zs := zs) (.inr ⟨_, rfl, hl, hm, by simpa using hzl, hcell, hwz⟩)
    refine ⟨m, h1, ?_, h2⟩
    simp only [Prod.mk.injEq] at hx
    obtain ⟨rfl, _⟩ := hx
    have := hz _ (by simp only [DataW.weights, ht, List.mem_cons]; exact .inl rfl)
    rw [hb] at this
    simp only [if_true] at hzl
    simp only [Go.ChangeShapes.lits, List.length_map, List.length_take, List.length_drop, reachBytes] at this
    omega

/-- A []string that came in. -/
theorem came_strs {t e : TypeId} {a : Option Addr} {len cap : Nat} {d : DataW H} {ps : List MemPlace} (ht : P.underlying t = some (.slice e)) (he : P.underlying e = some .string) (hc : P.cellsOf e = 1)
    (h : DataW.Trod enc P w base (fun _ => true) held t (.slice a len cap) d ps) (hz : ∀ n ∈ d.weights P t, n ≤ reachBytes) : ∃ l : List ByteArray, l.length = len ∧ (∀ x ∈ l, x.size ≤ 140737488351232) ∧ Rd w (.slice a len cap) (strs l) := by
  obtain ⟨fuel, hf⟩ := h
  rcases Go.ChangeShapes.open_strings ht he hc hf with ⟨hcs, _⟩ | ⟨x, l, c, ss, hcs, _, hl, hm, hzl, hx, hcell, hws⟩
  · simp [Value.cells] at hcs
    obtain ⟨rfl, rfl, rfl⟩ := hcs
    exact ⟨[], rfl, by simp, Rd.nil w⟩
  · simp [Value.cells] at hcs
    obtain ⟨rfl, rfl, rfl⟩ := hcs
    simp only [if_true] at hzl
    simp only [Prod.mk.injEq] at hx
    obtain ⟨rfl, _⟩ := hx
    refine ⟨ss.take len, by rw [List.length_take]; omega, fun y hy => ?_, some x, cap, by rw [strs_len, List.length_take, Nat.min_eq_left (by omega)], by rw [strs_len, List.length_take]; omega, hm, by simp, fun ad e' i u hu => ?_⟩
    · have hall : ∀ (A : List ByteArray) (y : ByteArray), y ∈ A → y.size ∈ DataW.weightsAll P e (Go.ChangeShapes.strs (H := H) A) := by
        intro A
        induction A with
        | nil => intro y h; cases h
        | cons z A ih =>
          intro y h
          simp only [Go.ChangeShapes.strs, List.map_cons, DataW.weightsAll, DataW.weights, List.mem_append, List.mem_singleton]
          rcases List.mem_cons.1 h with rfl | h
          · left; rw [Array.length_toList]; rfl
          · exact .inr (ih y h)
      exact hz _ (by simp only [DataW.weights, ht, List.mem_cons, List.mem_append]; exact .inr (.inl (hall _ _ hy)))
    · cases e'
      have hi : i < len := by
        have := (List.getElem?_eq_some_iff.1 hu).1
        rw [strs_len, List.length_take] at this
        omega
      have hs : i < ss.length := by omega
      rw [hcell i hs, ← hu]
      simp only [strs, List.getElem?_map, List.getElem?_take, if_pos hi, List.getElem?_eq_getElem hs, Option.map_some]
      congr 2
      rw [List.getD_eq_getElem?_getD, List.getElem?_eq_getElem hs]
      rfl
/-- A text that came in. -/
theorem came_str {t : TypeId} {s : ByteArray} (hz : ∀ n ∈ DataW.weights P t (.lit (H := H) (.string s.data.toList)), n ≤ reachBytes) : s.size ≤ 140737488351232 := by
  have := hz s.size (by simp only [DataW.weights, List.mem_singleton]; rw [Array.length_toList]; rfl)
  exact this
end
end Go.Proofs.Ytbifdckmkogbgaa
