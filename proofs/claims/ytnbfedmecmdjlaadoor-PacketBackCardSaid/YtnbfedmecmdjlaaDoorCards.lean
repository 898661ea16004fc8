/-
  DERIVED. GIVEN WITH THE SEED: THE CARDS: each row of YtnbfedmecmdjlaaDoorRows.lean that lists a variable, with what it lists TIED to the program's text (the seventh form; the later family's looks); each row that meets fmt, with fmt's text TOLD by the authors' own Lean function (tested against real Go, not proved from fmt's source: count such statements apart). THE CARD IS WHAT COUNTS. Prove the row's statement (the work); the ties are given (YtnbfedmecmdjlaaDoorTie.lean); close each card by the builder's one call (the guide's Derived/Test/ToyasCard.lean, 'card_holds'). Laid BY PROGRAM, IN A SANDBOX (cutbox-door.mjs). By AI agents, Wed Nov 11 2026. No macro, syntax, notation, axiom, sorry.
-/
import Derived.Test.YtnbfedmecmdjlaaDoorRows
import GoSem.ClaimSeven
namespace Go.Proofs.YtnbfedmecmdjlaaDoor
namespace Rows

/-- THE TIED CARD OF 'tabularylaw07.PacketRuns'. -/
def packetRunsCard : Claim7 := { stood := { row := packetRunsRow, standIns := [], harness := (true, "46f2f38ac1b5ab51f5003b27b107e08e8ed9ba4353e0d16a5c6d2c9df9603781"), looks := false }, kinds := [], alts := [], laidByText := true, laidKinds := [.data, .data, .data], laidTests := true, laidLooks := .later }
def PacketRunsCardSaid : Prop := Claim7.holds Tryd.pinned (.plain (OpenSpec.ofChange packetRunsSpec)) packetRunsCard

/-- THE TIED CARD OF 'tabularylaw07.PacketBack'. -/
def packetBackCard : Claim7 := { stood := { row := packetBackRow, standIns := [], harness := (true, "46f2f38ac1b5ab51f5003b27b107e08e8ed9ba4353e0d16a5c6d2c9df9603781"), looks := false }, kinds := [], alts := [], laidByText := true, laidKinds := [.data, .data, .data], laidTests := true, laidLooks := .later }
def PacketBackCardSaid : Prop := Claim7.holds Tryd.pinned (.plain (OpenSpec.ofChange packetBackSpec)) packetBackCard

/-- THE TIED CARD OF 'tabularylaw07.PacketSizes'. -/
def packetSizesCard : Claim7 := { stood := { row := packetSizesRow, standIns := [], harness := (true, "46f2f38ac1b5ab51f5003b27b107e08e8ed9ba4353e0d16a5c6d2c9df9603781"), looks := false }, kinds := [], alts := [], laidByText := true, laidKinds := [.data, .data, .data], laidTests := true, laidLooks := .later }
def PacketSizesCardSaid : Prop := Claim7.holds Tryd.pinned (.plain (OpenSpec.ofChange packetSizesSpec)) packetSizesCard

/-- THE TIED CARD OF 'tabularylaw07.PacketNone'. -/
def packetNoneCard : Claim7 := { stood := { row := packetNoneRow, standIns := [], harness := (true, "46f2f38ac1b5ab51f5003b27b107e08e8ed9ba4353e0d16a5c6d2c9df9603781"), looks := false }, kinds := [], alts := [], laidByText := true, laidKinds := [.data, .data, .data], laidTests := true, laidLooks := .later }
def PacketNoneCardSaid : Prop := Claim7.holds Tryd.pinned (.plain (OpenSpec.ofChange packetNoneSpec)) packetNoneCard

/-- THE TIED CARD OF 'tabularylaw07.PacketApart'. -/
def packetApartCard : Claim7 := { stood := { row := packetApartRow, standIns := [], harness := (true, "46f2f38ac1b5ab51f5003b27b107e08e8ed9ba4353e0d16a5c6d2c9df9603781"), looks := false }, kinds := [], alts := [], laidByText := true, laidKinds := [.data, .data, .data], laidTests := true, laidLooks := .later }
def PacketApartCardSaid : Prop := Claim7.holds Tryd.pinned (.plain (OpenSpec.ofChange packetApartSpec)) packetApartCard

/-- THE SECOND FORM's CARD OF 'tabularylaw07.PacketRuns'. -/
def packetRunsUptoCard : Claim7 := { stood := { row := packetRunsUptoRow, standIns := [], harness := (true, "46f2f38ac1b5ab51f5003b27b107e08e8ed9ba4353e0d16a5c6d2c9df9603781"), looks := false }, kinds := [], alts := [], laidByText := true, laidKinds := [.data, .data, .data], laidTests := true, laidLooks := .later }
def PacketRunsUptoCardSaid : Prop := Claim7.holds Tryd.pinned (.plain (OpenSpec.upto packetRunsSpec)) packetRunsUptoCard

/-- THE SECOND FORM's CARD OF 'tabularylaw07.PacketBack'. -/
def packetBackUptoCard : Claim7 := { stood := { row := packetBackUptoRow, standIns := [], harness := (true, "46f2f38ac1b5ab51f5003b27b107e08e8ed9ba4353e0d16a5c6d2c9df9603781"), looks := false }, kinds := [], alts := [], laidByText := true, laidKinds := [.data, .data, .data], laidTests := true, laidLooks := .later }
def PacketBackUptoCardSaid : Prop := Claim7.holds Tryd.pinned (.plain (OpenSpec.upto packetBackSpec)) packetBackUptoCard

/-- THE SECOND FORM's CARD OF 'tabularylaw07.PacketSizes'. -/
def packetSizesUptoCard : Claim7 := { stood := { row := packetSizesUptoRow, standIns := [], harness := (true, "46f2f38ac1b5ab51f5003b27b107e08e8ed9ba4353e0d16a5c6d2c9df9603781"), looks := false }, kinds := [], alts := [], laidByText := true, laidKinds := [.data, .data, .data], laidTests := true, laidLooks := .later }
def PacketSizesUptoCardSaid : Prop := Claim7.holds Tryd.pinned (.plain (OpenSpec.upto packetSizesSpec)) packetSizesUptoCard

/-- THE SECOND FORM's CARD OF 'tabularylaw07.PacketNone'. -/
def packetNoneUptoCard : Claim7 := { stood := { row := packetNoneUptoRow, standIns := [], harness := (true, "46f2f38ac1b5ab51f5003b27b107e08e8ed9ba4353e0d16a5c6d2c9df9603781"), looks := false }, kinds := [], alts := [], laidByText := true, laidKinds := [.data, .data, .data], laidTests := true, laidLooks := .later }
def PacketNoneUptoCardSaid : Prop := Claim7.holds Tryd.pinned (.plain (OpenSpec.upto packetNoneSpec)) packetNoneUptoCard

/-- THE SECOND FORM's CARD OF 'tabularylaw07.PacketApart'. -/
def packetApartUptoCard : Claim7 := { stood := { row := packetApartUptoRow, standIns := [], harness := (true, "46f2f38ac1b5ab51f5003b27b107e08e8ed9ba4353e0d16a5c6d2c9df9603781"), looks := false }, kinds := [], alts := [], laidByText := true, laidKinds := [.data, .data, .data], laidTests := true, laidLooks := .later }
def PacketApartUptoCardSaid : Prop := Claim7.holds Tryd.pinned (.plain (OpenSpec.upto packetApartSpec)) packetApartUptoCard
end Rows
end Go.Proofs.YtnbfedmecmdjlaaDoor
