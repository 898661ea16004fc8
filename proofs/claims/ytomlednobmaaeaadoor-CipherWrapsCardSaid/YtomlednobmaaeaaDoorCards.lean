/-
  DERIVED. GIVEN WITH THE SEED: THE CARDS: each row of YtomlednobmaaeaaDoorRows.lean that lists a variable, with what it lists TIED to the program's text (the seventh form; the later family's looks); each row that meets fmt, with fmt's text TOLD by the authors' own Lean function (tested against real Go, not proved from fmt's source: count such statements apart). THE CARD IS WHAT COUNTS. Prove the row's statement (the work); the ties are given (YtomlednobmaaeaaDoorTie.lean); close each card by the builder's one call (the guide's Derived/Test/ToyasCard.lean, 'card_holds'). Laid BY PROGRAM, IN A SANDBOX (cutbox-door.mjs). By AI agents, Wed Nov 11 2026. No macro, syntax, notation, axiom, sorry.
-/
import Derived.Test.YtomlednobmaaeaaDoorRows
import GoSem.ClaimSeven
namespace Go.Proofs.YtomlednobmaaeaaDoor
namespace Rows

/-- THE TIED CARD OF 'tabularylaw06.CipherBlocks'. -/
def cipherBlocksCard : Claim7 := { stood := { row := cipherBlocksRow, standIns := [], harness := (true, "5a5c8d4105a175f0d8027076dc3b6df6b0d4329820c7c1bf0ec895b7909f1f7b"), looks := false }, kinds := [], alts := [], laidByText := true, laidKinds := [.data], laidTests := true, laidLooks := .later }
def CipherBlocksCardSaid : Prop := Claim7.holds Tryd.pinned (.plain (OpenSpec.ofChange cipherBlocksSpec)) cipherBlocksCard

/-- THE TIED CARD OF 'tabularylaw06.CipherStreams'. -/
def cipherStreamsCard : Claim7 := { stood := { row := cipherStreamsRow, standIns := [], harness := (true, "5a5c8d4105a175f0d8027076dc3b6df6b0d4329820c7c1bf0ec895b7909f1f7b"), looks := false }, kinds := [], alts := [], laidByText := true, laidKinds := [.data], laidTests := true, laidLooks := .later }
def CipherStreamsCardSaid : Prop := Claim7.holds Tryd.pinned (.plain (OpenSpec.ofChange cipherStreamsSpec)) cipherStreamsCard

/-- THE TIED CARD OF 'tabularylaw06.CipherBack'. -/
def cipherBackCard : Claim7 := { stood := { row := cipherBackRow, standIns := [], harness := (true, "5a5c8d4105a175f0d8027076dc3b6df6b0d4329820c7c1bf0ec895b7909f1f7b"), looks := false }, kinds := [], alts := [], laidByText := true, laidKinds := [.data], laidTests := true, laidLooks := .later }
def CipherBackCardSaid : Prop := Claim7.holds Tryd.pinned (.plain (OpenSpec.ofChange cipherBackSpec)) cipherBackCard

/-- THE TIED CARD OF 'tabularylaw06.CipherOwn'. -/
def cipherOwnCard : Claim7 := { stood := { row := cipherOwnRow, standIns := [], harness := (true, "5a5c8d4105a175f0d8027076dc3b6df6b0d4329820c7c1bf0ec895b7909f1f7b"), looks := false }, kinds := [], alts := [], laidByText := true, laidKinds := [.data], laidTests := true, laidLooks := .later }
def CipherOwnCardSaid : Prop := Claim7.holds Tryd.pinned (.plain (OpenSpec.ofChange cipherOwnSpec)) cipherOwnCard

/-- THE TIED CARD OF 'tabularylaw06.CipherWraps'. -/
def cipherWrapsCard : Claim7 := { stood := { row := cipherWrapsRow, standIns := [], harness := (true, "5a5c8d4105a175f0d8027076dc3b6df6b0d4329820c7c1bf0ec895b7909f1f7b"), looks := false }, kinds := [], alts := [], laidByText := true, laidKinds := [.data], laidTests := true, laidLooks := .later }
def CipherWrapsCardSaid : Prop := Claim7.holds Tryd.pinned (.plain (OpenSpec.ofChange cipherWrapsSpec)) cipherWrapsCard

/-- THE SECOND FORM's CARD OF 'tabularylaw06.CipherBlocks'. -/
def cipherBlocksUptoCard : Claim7 := { stood := { row := cipherBlocksUptoRow, standIns := [], harness := (true, "5a5c8d4105a175f0d8027076dc3b6df6b0d4329820c7c1bf0ec895b7909f1f7b"), looks := false }, kinds := [], alts := [], laidByText := true, laidKinds := [.data], laidTests := true, laidLooks := .later }
def CipherBlocksUptoCardSaid : Prop := Claim7.holds Tryd.pinned (.plain (OpenSpec.upto cipherBlocksSpec)) cipherBlocksUptoCard

/-- THE SECOND FORM's CARD OF 'tabularylaw06.CipherStreams'. -/
def cipherStreamsUptoCard : Claim7 := { stood := { row := cipherStreamsUptoRow, standIns := [], harness := (true, "5a5c8d4105a175f0d8027076dc3b6df6b0d4329820c7c1bf0ec895b7909f1f7b"), looks := false }, kinds := [], alts := [], laidByText := true, laidKinds := [.data], laidTests := true, laidLooks := .later }
def CipherStreamsUptoCardSaid : Prop := Claim7.holds Tryd.pinned (.plain (OpenSpec.upto cipherStreamsSpec)) cipherStreamsUptoCard

/-- THE SECOND FORM's CARD OF 'tabularylaw06.CipherBack'. -/
def cipherBackUptoCard : Claim7 := { stood := { row := cipherBackUptoRow, standIns := [], harness := (true, "5a5c8d4105a175f0d8027076dc3b6df6b0d4329820c7c1bf0ec895b7909f1f7b"), looks := false }, kinds := [], alts := [], laidByText := true, laidKinds := [.data], laidTests := true, laidLooks := .later }
def CipherBackUptoCardSaid : Prop := Claim7.holds Tryd.pinned (.plain (OpenSpec.upto cipherBackSpec)) cipherBackUptoCard

/-- THE SECOND FORM's CARD OF 'tabularylaw06.CipherOwn'. -/
def cipherOwnUptoCard : Claim7 := { stood := { row := cipherOwnUptoRow, standIns := [], harness := (true, "5a5c8d4105a175f0d8027076dc3b6df6b0d4329820c7c1bf0ec895b7909f1f7b"), looks := false }, kinds := [], alts := [], laidByText := true, laidKinds := [.data], laidTests := true, laidLooks := .later }
def CipherOwnUptoCardSaid : Prop := Claim7.holds Tryd.pinned (.plain (OpenSpec.upto cipherOwnSpec)) cipherOwnUptoCard

/-- THE SECOND FORM's CARD OF 'tabularylaw06.CipherWraps'. -/
def cipherWrapsUptoCard : Claim7 := { stood := { row := cipherWrapsUptoRow, standIns := [], harness := (true, "5a5c8d4105a175f0d8027076dc3b6df6b0d4329820c7c1bf0ec895b7909f1f7b"), looks := false }, kinds := [], alts := [], laidByText := true, laidKinds := [.data], laidTests := true, laidLooks := .later }
def CipherWrapsUptoCardSaid : Prop := Claim7.holds Tryd.pinned (.plain (OpenSpec.upto cipherWrapsSpec)) cipherWrapsUptoCard
end Rows
end Go.Proofs.YtomlednobmaaeaaDoor
