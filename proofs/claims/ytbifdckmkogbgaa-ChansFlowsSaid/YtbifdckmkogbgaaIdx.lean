/- An array's element, by value. -/
import Derived.Test.YtbifdckmkogbgaaArK
import Derived.WalkKit
namespace Go.Proofs.Ytbifdckmkogbgaa
open Go Go.RowKit
theorem run_index_cells {P : Program} {w : World} (t e : TypeId) (N : Nat) (k k' : IntKind) (cs : List Value) (n : Nat) (x : Value) (hx : cs[n]? = some x) (h : P.underlying t = some (.array N e)) (he : P.underlying e = some (.int k)) (hs : (sizeOf e).run P w = .ok 1 w) (hn : n < N) :
    (Instr.index t (.agg cs.toArray) (.int k' (n : Int))).run P w = .ok x w := by
  have h1 : (0 : Int) ≤ (n : Int) ∧ (n : Int) < (N : Int) := by omega
  have ha : (isAgg e).run P w = .ok false w := by simp [isAgg, run_underlying he, go_sem]
  simp [Instr.index, run_underlying h, asIntOf, hn, part, hx, hs, ha, go_sem]
end Go.Proofs.Ytbifdckmkogbgaa
