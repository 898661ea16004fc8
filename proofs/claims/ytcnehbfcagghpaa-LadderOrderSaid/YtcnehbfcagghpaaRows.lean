/-
  No cell of these rows narrows 'for every input' (looked for: loops, veiled, ifaces, maps, wideKeys, modest, calm, conditions, laid).
  DERIVED. THE GIVEN ROWS OF THIS SEAT. 5 by the template 'for every input the law returns true; each argument reads behind the call as it read before'; 0 by the template 'total and deterministic' (their statements: YtcnehbfcagghpaaTotals.lean).
  GIVEN WITH THE SEED: the statements are not yours to turn. If you find one false, say at which input.
  Laid BY PROGRAM, IN A SANDBOX (cutbox-rows.mjs): the forced cells as the released guide's own fill.sh prints them over the translation 5629d76eff9d5f9d… (all of the seat's roots in one cut). By AI agents, Wed Nov 11 2026. No macro, syntax, notation, axiom, sorry.
-/
import Derived.Test.YtcnehbfcagghpaaChecked
import GoSem.Claim
import GoSem.ClaimJoined
import GoSem.ClaimMapViews
import Derived.JoinedTies
import Derived.KernelRfl
namespace Go.Proofs.Ytcnehbfcagghpaa
/- THE CELL 'sum', in the pinned program and in every row, IS THE sha256 OF THE DUMP (.gsa) THAT YtcnehbfcagghpaaProg.lean LOADS. Nothing in Lean hashes anything: it is a label: what it is worth is what the hold of that sum in a sandbox is worth. -/
noncomputable def Try.pinned : Pinned := { name := "ytcnehbfcagghpaa", sum := "5629d76eff9d5f9d374d232061b9492ba972e93677016fe650f6223665b0bc66", checked := Try.checked }
namespace Rows
def none {H : Type} : Left H := { results := [], args := [] }

/-- 'tabularylaw04.LadderMults': WHATEVER THE INPUT: true; the input reads as it did. -/
def ladderMultsSpec : ChangeSpec := { name := "ladderMults", fn := fun _ => fun
  | [d1, d2] => { results := [.lit (.bool true)], args := [d1, d2] }
  | _ => none }
def ladderMultsRow : OpenClaim := { program := "ytcnehbfcagghpaa", sum := "5629d76eff9d5f9d374d232061b9492ba972e93677016fe650f6223665b0bc66", func := "tabulary/tabularylaw04.LadderMults", spec := "ladderMults", inPlace := ["math/bits.Add64"], apart := false }
def LadderMultsSaid : Prop := ladderMultsRow.holds Try.pinned (OpenSpec.ofChange ladderMultsSpec)

/-- ITS FALSE NEIGHBOUR: 'it returns false'. Refute it at one input. -/
def ladderMultsWrong : ChangeSpec := { name := "ladderMults", fn := fun _ => fun
  | [d1, d2] => { results := [.lit (.bool false)], args := [d1, d2] }
  | _ => none }
def LadderMultsWrongFalsely : Prop := ladderMultsRow.holds Try.pinned (OpenSpec.ofChange ladderMultsWrong)

/-- 'tabularylaw04.LadderShares': WHATEVER THE INPUT: true; the input reads as it did. -/
def ladderSharesSpec : ChangeSpec := { name := "ladderShares", fn := fun _ => fun
  | [d1, d2, d3] => { results := [.lit (.bool true)], args := [d1, d2, d3] }
  | _ => none }
def ladderSharesRow : OpenClaim := { program := "ytcnehbfcagghpaa", sum := "5629d76eff9d5f9d374d232061b9492ba972e93677016fe650f6223665b0bc66", func := "tabulary/tabularylaw04.LadderShares", spec := "ladderShares", inPlace := ["math/bits.Add64"], apart := false }
def LadderSharesSaid : Prop := ladderSharesRow.holds Try.pinned (OpenSpec.ofChange ladderSharesSpec)

/-- ITS FALSE NEIGHBOUR: 'it returns false'. Refute it at one input. -/
def ladderSharesWrong : ChangeSpec := { name := "ladderShares", fn := fun _ => fun
  | [d1, d2, d3] => { results := [.lit (.bool false)], args := [d1, d2, d3] }
  | _ => none }
def LadderSharesWrongFalsely : Prop := ladderSharesRow.holds Try.pinned (OpenSpec.ofChange ladderSharesWrong)

/-- 'tabularylaw04.LadderTrims': WHATEVER THE INPUT: true; the input reads as it did. -/
def ladderTrimsSpec : ChangeSpec := { name := "ladderTrims", fn := fun _ => fun
  | [d1, d2] => { results := [.lit (.bool true)], args := [d1, d2] }
  | _ => none }
def ladderTrimsRow : OpenClaim := { program := "ytcnehbfcagghpaa", sum := "5629d76eff9d5f9d374d232061b9492ba972e93677016fe650f6223665b0bc66", func := "tabulary/tabularylaw04.LadderTrims", spec := "ladderTrims", inPlace := ["math/bits.Add64"], apart := false }
def LadderTrimsSaid : Prop := ladderTrimsRow.holds Try.pinned (OpenSpec.ofChange ladderTrimsSpec)

/-- ITS FALSE NEIGHBOUR: 'it returns false'. Refute it at one input. -/
def ladderTrimsWrong : ChangeSpec := { name := "ladderTrims", fn := fun _ => fun
  | [d1, d2] => { results := [.lit (.bool false)], args := [d1, d2] }
  | _ => none }
def LadderTrimsWrongFalsely : Prop := ladderTrimsRow.holds Try.pinned (OpenSpec.ofChange ladderTrimsWrong)

/-- 'tabularylaw04.LadderOrder': WHATEVER THE INPUT: true; the input reads as it did. -/
def ladderOrderSpec : ChangeSpec := { name := "ladderOrder", fn := fun _ => fun
  | [d1, d2, d3] => { results := [.lit (.bool true)], args := [d1, d2, d3] }
  | _ => none }
def ladderOrderRow : OpenClaim := { program := "ytcnehbfcagghpaa", sum := "5629d76eff9d5f9d374d232061b9492ba972e93677016fe650f6223665b0bc66", func := "tabulary/tabularylaw04.LadderOrder", spec := "ladderOrder", inPlace := ["math/bits.Add64"], apart := false }
def LadderOrderSaid : Prop := ladderOrderRow.holds Try.pinned (OpenSpec.ofChange ladderOrderSpec)

/-- ITS FALSE NEIGHBOUR: 'it returns false'. Refute it at one input. -/
def ladderOrderWrong : ChangeSpec := { name := "ladderOrder", fn := fun _ => fun
  | [d1, d2, d3] => { results := [.lit (.bool false)], args := [d1, d2, d3] }
  | _ => none }
def LadderOrderWrongFalsely : Prop := ladderOrderRow.holds Try.pinned (OpenSpec.ofChange ladderOrderWrong)

/-- 'tabularylaw04.LadderSmall': WHATEVER THE INPUT: true; the input reads as it did. -/
def ladderSmallSpec : ChangeSpec := { name := "ladderSmall", fn := fun _ => fun
  | [d1, d2] => { results := [.lit (.bool true)], args := [d1, d2] }
  | _ => none }
def ladderSmallRow : OpenClaim := { program := "ytcnehbfcagghpaa", sum := "5629d76eff9d5f9d374d232061b9492ba972e93677016fe650f6223665b0bc66", func := "tabulary/tabularylaw04.LadderSmall", spec := "ladderSmall", inPlace := ["math/bits.Add64"], apart := false }
def LadderSmallSaid : Prop := ladderSmallRow.holds Try.pinned (OpenSpec.ofChange ladderSmallSpec)

/-- ITS FALSE NEIGHBOUR: 'it returns false'. Refute it at one input. -/
def ladderSmallWrong : ChangeSpec := { name := "ladderSmall", fn := fun _ => fun
  | [d1, d2] => { results := [.lit (.bool false)], args := [d1, d2] }
  | _ => none }
def LadderSmallWrongFalsely : Prop := ladderSmallRow.holds Try.pinned (OpenSpec.ofChange ladderSmallWrong)

/- THE SECOND FORM. 'bulk': how many values and letters a reading holds, each counted each time it is reached (what is shared counts as often as it is met; a slice's spare places count too). A statement '..UptoSaid' is the law's where the arguments, and the package variables that the reading takes, are together of bulk at most 1048576: NARROWER than '..Said'. Prove '..Said' where nothing that the law and all that it calls make is longer than what came in: it says more and counts as full. Else prove '..UptoSaid'. A law counts once. -/
mutual
def uptoBulk {H : Type} : DataW H → Nat
  | .lit (.string bytes) => bytes.length + 1
  | .lit _ => 1
  | .nil => 1
  | .ptr d => uptoBulk d + 1
  | .slice elems spare => uptoBulkAll elems + uptoBulkAll spare + 1
  | .agg parts => uptoBulkAll parts + 1
  | .iface _ d => uptoBulk d + 1
  | .map entries => uptoBulkEntries entries + 1
  | .held _ => 1
def uptoBulkAll {H : Type} : List (DataW H) → Nat
  | [] => 0
  | d :: r => uptoBulk d + uptoBulkAll r
def uptoBulkEntries {H : Type} : List (Lit × DataW H) → Nat
  | [] => 0
  | x :: r => uptoBulkEntry x + uptoBulkEntries r
def uptoBulkEntry {H : Type} : Lit × DataW H → Nat
  | (.string bytes, d) => bytes.length + uptoBulk d + 1
  | (_, d) => uptoBulk d + 1
 end
def uptoSmall : (H : Type) → List (DataW H) → Bool := fun _ ds => decide (uptoBulkAll ds ≤ 1048576)
def OpenSpec.upto (s : _root_.Go.ChangeSpec) : _root_.Go.OpenSpec := { _root_.Go.OpenSpec.ofChange s with cond := some uptoSmall }

/-- 'tabularylaw04.LadderMults', WHERE WHAT IT READS IS OF BULK AT MOST 1048576: true; the input reads as it did. -/
def ladderMultsUptoRow : OpenClaim := { program := "ytcnehbfcagghpaa", sum := "5629d76eff9d5f9d374d232061b9492ba972e93677016fe650f6223665b0bc66", func := "tabulary/tabularylaw04.LadderMults", spec := "ladderMults", inPlace := ["math/bits.Add64"], apart := false, narrowed := true }
def LadderMultsUptoSaid : Prop := ladderMultsUptoRow.holds Try.pinned (OpenSpec.upto ladderMultsSpec)

/-- 'tabularylaw04.LadderShares', WHERE WHAT IT READS IS OF BULK AT MOST 1048576: true; the input reads as it did. -/
def ladderSharesUptoRow : OpenClaim := { program := "ytcnehbfcagghpaa", sum := "5629d76eff9d5f9d374d232061b9492ba972e93677016fe650f6223665b0bc66", func := "tabulary/tabularylaw04.LadderShares", spec := "ladderShares", inPlace := ["math/bits.Add64"], apart := false, narrowed := true }
def LadderSharesUptoSaid : Prop := ladderSharesUptoRow.holds Try.pinned (OpenSpec.upto ladderSharesSpec)

/-- 'tabularylaw04.LadderTrims', WHERE WHAT IT READS IS OF BULK AT MOST 1048576: true; the input reads as it did. -/
def ladderTrimsUptoRow : OpenClaim := { program := "ytcnehbfcagghpaa", sum := "5629d76eff9d5f9d374d232061b9492ba972e93677016fe650f6223665b0bc66", func := "tabulary/tabularylaw04.LadderTrims", spec := "ladderTrims", inPlace := ["math/bits.Add64"], apart := false, narrowed := true }
def LadderTrimsUptoSaid : Prop := ladderTrimsUptoRow.holds Try.pinned (OpenSpec.upto ladderTrimsSpec)

/-- 'tabularylaw04.LadderOrder', WHERE WHAT IT READS IS OF BULK AT MOST 1048576: true; the input reads as it did. -/
def ladderOrderUptoRow : OpenClaim := { program := "ytcnehbfcagghpaa", sum := "5629d76eff9d5f9d374d232061b9492ba972e93677016fe650f6223665b0bc66", func := "tabulary/tabularylaw04.LadderOrder", spec := "ladderOrder", inPlace := ["math/bits.Add64"], apart := false, narrowed := true }
def LadderOrderUptoSaid : Prop := ladderOrderUptoRow.holds Try.pinned (OpenSpec.upto ladderOrderSpec)

/-- 'tabularylaw04.LadderSmall', WHERE WHAT IT READS IS OF BULK AT MOST 1048576: true; the input reads as it did. -/
def ladderSmallUptoRow : OpenClaim := { program := "ytcnehbfcagghpaa", sum := "5629d76eff9d5f9d374d232061b9492ba972e93677016fe650f6223665b0bc66", func := "tabulary/tabularylaw04.LadderSmall", spec := "ladderSmall", inPlace := ["math/bits.Add64"], apart := false, narrowed := true }
def LadderSmallUptoSaid : Prop := ladderSmallUptoRow.holds Try.pinned (OpenSpec.upto ladderSmallSpec)

end Rows
end Go.Proofs.Ytcnehbfcagghpaa
