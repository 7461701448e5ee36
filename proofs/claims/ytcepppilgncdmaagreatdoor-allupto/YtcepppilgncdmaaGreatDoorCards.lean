/-
  DERIVED. GIVEN WITH THE SEED: THE CARDS: each row of YtcepppilgncdmaaGreatDoorRows.lean that lists a variable, with what it lists TIED to the program's text (the seventh form; the later family's looks); each row that meets fmt, with fmt's text TOLD by the authors' own Lean function (tested against real Go, not proved from fmt's source: count such statements apart). THE CARD IS WHAT COUNTS. Prove the row's statement (the work); the ties are given (YtcepppilgncdmaaGreatDoorTie.lean); close each card by the builder's one call (the guide's Derived/Test/ToyasCard.lean, 'card_holds'). Laid BY PROGRAM, IN A SANDBOX (cutbox-door.mjs). By AI agents, Wed Nov 11 2026. No macro, syntax, notation, axiom, sorry.
-/
import Derived.Test.YtcepppilgncdmaaGreatDoorRows
import GoSem.ClaimSeven
namespace Go.Proofs.YtcepppilgncdmaaGreatDoor
namespace Rows

/-- THE TIED CARD OF 'masonlaw.Values'. -/
def valuesCard : Claim7 := { stood := { row := valuesRow, standIns := [], harness := (true, "2c7c68b937f0216a73ad607c5f4fd393e979f4bde014c9e90a6104f716428b18"), looks := false }, kinds := [], alts := [], laidByText := true, laidKinds := [.data, .pinned], laidTests := true, laidLooks := .later }
def ValuesCardSaid : Prop := Claim7.holds Tryz.pinned (.plain (OpenSpec.ofChange valuesSpec)) valuesCard

/-- THE TIED CARD OF 'masonlaw.Expands'. -/
def expandsCard : Claim7 := { stood := { row := expandsRow, standIns := [], harness := (true, "2c7c68b937f0216a73ad607c5f4fd393e979f4bde014c9e90a6104f716428b18"), looks := false }, kinds := [], alts := [], laidByText := true, laidKinds := [.data, .pinned], laidTests := true, laidLooks := .later }
def ExpandsCardSaid : Prop := Claim7.holds Tryz.pinned (.plain (OpenSpec.ofChange expandsSpec)) expandsCard

/-- THE TIED CARD OF 'masonlaw.Assembles'. -/
def assemblesCard : Claim7 := { stood := { row := assemblesRow, standIns := [], harness := (true, "2c7c68b937f0216a73ad607c5f4fd393e979f4bde014c9e90a6104f716428b18"), looks := false }, kinds := [], alts := [], laidByText := true, laidKinds := [.data, .pinned], laidTests := true, laidLooks := .later }
def AssemblesCardSaid : Prop := Claim7.holds Tryz.pinned (.plain (OpenSpec.ofChange assemblesSpec)) assemblesCard

/-- THE TIED CARD OF 'masonkeep.Again'. -/
def againCard : Claim7 := { stood := { row := againRow, standIns := [], harness := (true, "2c7c68b937f0216a73ad607c5f4fd393e979f4bde014c9e90a6104f716428b18"), looks := false }, kinds := [], alts := [], laidByText := true, laidKinds := [.data, .pinned], laidTests := true, laidLooks := .later }
def AgainCardSaid : Prop := Claim7.holds Tryz.pinned (.plain (OpenSpec.ofChange againSpec)) againCard

/-- THE TIED CARD OF 'masonkeep.Short'. -/
def shortCard : Claim7 := { stood := { row := shortRow, standIns := [], harness := (true, "2c7c68b937f0216a73ad607c5f4fd393e979f4bde014c9e90a6104f716428b18"), looks := false }, kinds := [], alts := [], laidByText := true, laidKinds := [.data, .pinned], laidTests := true, laidLooks := .later }
def ShortCardSaid : Prop := Claim7.holds Tryz.pinned (.plain (OpenSpec.ofChange shortSpec)) shortCard

/-- THE TIED CARD OF 'masonlaw.All'. -/
def allCard : Claim7 := { stood := { row := allRow, standIns := [], harness := (true, "2c7c68b937f0216a73ad607c5f4fd393e979f4bde014c9e90a6104f716428b18"), looks := false }, kinds := [], alts := [], laidByText := true, laidKinds := [.data, .pinned], laidTests := true, laidLooks := .later }
def AllCardSaid : Prop := Claim7.holds Tryz.pinned (.plain (OpenSpec.ofChange allSpec)) allCard

/-- THE SECOND FORM's CARD OF 'masonlaw.Values'. -/
def valuesUptoCard : Claim7 := { stood := { row := valuesUptoRow, standIns := [], harness := (true, "2c7c68b937f0216a73ad607c5f4fd393e979f4bde014c9e90a6104f716428b18"), looks := false }, kinds := [], alts := [], laidByText := true, laidKinds := [.data, .pinned], laidTests := true, laidLooks := .later }
def ValuesUptoCardSaid : Prop := Claim7.holds Tryz.pinned (.plain (OpenSpec.upto valuesSpec)) valuesUptoCard

/-- THE SECOND FORM's CARD OF 'masonlaw.Expands'. -/
def expandsUptoCard : Claim7 := { stood := { row := expandsUptoRow, standIns := [], harness := (true, "2c7c68b937f0216a73ad607c5f4fd393e979f4bde014c9e90a6104f716428b18"), looks := false }, kinds := [], alts := [], laidByText := true, laidKinds := [.data, .pinned], laidTests := true, laidLooks := .later }
def ExpandsUptoCardSaid : Prop := Claim7.holds Tryz.pinned (.plain (OpenSpec.upto expandsSpec)) expandsUptoCard

/-- THE SECOND FORM's CARD OF 'masonlaw.Assembles'. -/
def assemblesUptoCard : Claim7 := { stood := { row := assemblesUptoRow, standIns := [], harness := (true, "2c7c68b937f0216a73ad607c5f4fd393e979f4bde014c9e90a6104f716428b18"), looks := false }, kinds := [], alts := [], laidByText := true, laidKinds := [.data, .pinned], laidTests := true, laidLooks := .later }
def AssemblesUptoCardSaid : Prop := Claim7.holds Tryz.pinned (.plain (OpenSpec.upto assemblesSpec)) assemblesUptoCard

/-- THE SECOND FORM's CARD OF 'masonkeep.Again'. -/
def againUptoCard : Claim7 := { stood := { row := againUptoRow, standIns := [], harness := (true, "2c7c68b937f0216a73ad607c5f4fd393e979f4bde014c9e90a6104f716428b18"), looks := false }, kinds := [], alts := [], laidByText := true, laidKinds := [.data, .pinned], laidTests := true, laidLooks := .later }
def AgainUptoCardSaid : Prop := Claim7.holds Tryz.pinned (.plain (OpenSpec.upto againSpec)) againUptoCard

/-- THE SECOND FORM's CARD OF 'masonkeep.Short'. -/
def shortUptoCard : Claim7 := { stood := { row := shortUptoRow, standIns := [], harness := (true, "2c7c68b937f0216a73ad607c5f4fd393e979f4bde014c9e90a6104f716428b18"), looks := false }, kinds := [], alts := [], laidByText := true, laidKinds := [.data, .pinned], laidTests := true, laidLooks := .later }
def ShortUptoCardSaid : Prop := Claim7.holds Tryz.pinned (.plain (OpenSpec.upto shortSpec)) shortUptoCard

/-- THE SECOND FORM's CARD OF 'masonlaw.All'. -/
def allUptoCard : Claim7 := { stood := { row := allUptoRow, standIns := [], harness := (true, "2c7c68b937f0216a73ad607c5f4fd393e979f4bde014c9e90a6104f716428b18"), looks := false }, kinds := [], alts := [], laidByText := true, laidKinds := [.data, .pinned], laidTests := true, laidLooks := .later }
def AllUptoCardSaid : Prop := Claim7.holds Tryz.pinned (.plain (OpenSpec.upto allSpec)) allUptoCard
end Rows
end Go.Proofs.YtcepppilgncdmaaGreatDoor
