/-
  DERIVED. GIVEN WITH THE SEED: THE CARDS: each row of YtcepppilgncdmaaDoorRows.lean that lists a variable, with what it lists TIED to the program's text (the seventh form; the later family's looks); each row that meets fmt, with fmt's text TOLD by the authors' own Lean function (tested against real Go, not proved from fmt's source: count such statements apart). THE CARD IS WHAT COUNTS. Prove the row's statement (the work); the ties are given (YtcepppilgncdmaaDoorTie.lean); close each card by the builder's one call (the guide's Derived/Test/ToyasCard.lean, 'card_holds'). Laid BY PROGRAM, IN A SANDBOX (cutbox-door.mjs). By AI agents, Wed Nov 11 2026. No macro, syntax, notation, axiom, sorry.
-/
import Derived.Test.YtcepppilgncdmaaDoorRows
import GoSem.ClaimSeven
namespace Go.Proofs.YtcepppilgncdmaaDoor
namespace Rows

/-- THE TIED CARD OF 'masonkeep.Unrolled'. -/
def unrolledCard : Claim7 := { stood := { row := unrolledRow, standIns := [], harness := (true, "164a29a2c3a216cb30de2bafb917de39670defcd369e84e4e0964fcec095e3c1"), looks := false }, kinds := [], alts := [], laidByText := true, laidKinds := [.data, .pinned], laidTests := true, laidLooks := .later }
def UnrolledCardSaid : Prop := Claim7.holds Tryd.pinned (.plain (OpenSpec.ofChange unrolledSpec)) unrolledCard

/-- THE TIED CARD OF 'masonkeep.Chosen'. -/
def chosenCard : Claim7 := { stood := { row := chosenRow, standIns := [], harness := (true, "164a29a2c3a216cb30de2bafb917de39670defcd369e84e4e0964fcec095e3c1"), looks := false }, kinds := [], alts := [], laidByText := true, laidKinds := [.data, .pinned], laidTests := true, laidLooks := .later }
def ChosenCardSaid : Prop := Claim7.holds Tryd.pinned (.plain (OpenSpec.ofChange chosenSpec)) chosenCard

/-- THE SECOND FORM's CARD OF 'masonkeep.Unrolled'. -/
def unrolledUptoCard : Claim7 := { stood := { row := unrolledUptoRow, standIns := [], harness := (true, "164a29a2c3a216cb30de2bafb917de39670defcd369e84e4e0964fcec095e3c1"), looks := false }, kinds := [], alts := [], laidByText := true, laidKinds := [.data, .pinned], laidTests := true, laidLooks := .later }
def UnrolledUptoCardSaid : Prop := Claim7.holds Tryd.pinned (.plain (OpenSpec.upto unrolledSpec)) unrolledUptoCard

/-- THE SECOND FORM's CARD OF 'masonkeep.Chosen'. -/
def chosenUptoCard : Claim7 := { stood := { row := chosenUptoRow, standIns := [], harness := (true, "164a29a2c3a216cb30de2bafb917de39670defcd369e84e4e0964fcec095e3c1"), looks := false }, kinds := [], alts := [], laidByText := true, laidKinds := [.data, .pinned], laidTests := true, laidLooks := .later }
def ChosenUptoCardSaid : Prop := Claim7.holds Tryd.pinned (.plain (OpenSpec.upto chosenSpec)) chosenUptoCard
end Rows
end Go.Proofs.YtcepppilgncdmaaDoor
