/-
  DERIVED. GIVEN WITH THE SEED: THE CARDS: each row of YtpilijfapepheaaGreatDoorRows.lean that lists a variable, with what it lists TIED to the program's text (the seventh form; the later family's looks); each row that meets fmt, with fmt's text TOLD by the authors' own Lean function (tested against real Go, not proved from fmt's source: count such statements apart). THE CARD IS WHAT COUNTS. Prove the row's statement (the work); the ties are given (YtpilijfapepheaaGreatDoorTie.lean); close each card by the builder's one call (the guide's Derived/Test/ToyasCard.lean, 'card_holds'). Laid BY PROGRAM, IN A SANDBOX (cutbox-door.mjs). By AI agents, Wed Nov 11 2026. No macro, syntax, notation, axiom, sorry.
-/
import Derived.Test.YtpilijfapepheaaGreatDoorRows
import GoSem.ClaimSeven
namespace Go.Proofs.YtpilijfapepheaaGreatDoor
namespace Rows

/-- THE TIED CARD OF 'masonlaw.Values'. -/
def valuesCard : Claim7 := { stood := { row := valuesRow, standIns := [], harness := (true, "bc895a84913fd784f9c34ee99b9f9653e8d78bfcde91ea38b82ee48c2b1fde2c"), looks := false }, kinds := [], alts := [], laidByText := true, laidKinds := [.data, .pinned], laidTests := true, laidLooks := .later }
def ValuesCardSaid : Prop := Claim7.holds Tryz.pinned (.plain (OpenSpec.ofChange valuesSpec)) valuesCard

/-- THE TIED CARD OF 'masonlaw.Expands'. -/
def expandsCard : Claim7 := { stood := { row := expandsRow, standIns := [], harness := (true, "bc895a84913fd784f9c34ee99b9f9653e8d78bfcde91ea38b82ee48c2b1fde2c"), looks := false }, kinds := [], alts := [], laidByText := true, laidKinds := [.data, .pinned], laidTests := true, laidLooks := .later }
def ExpandsCardSaid : Prop := Claim7.holds Tryz.pinned (.plain (OpenSpec.ofChange expandsSpec)) expandsCard

/-- THE SECOND FORM's CARD OF 'masonlaw.Values'. -/
def valuesUptoCard : Claim7 := { stood := { row := valuesUptoRow, standIns := [], harness := (true, "bc895a84913fd784f9c34ee99b9f9653e8d78bfcde91ea38b82ee48c2b1fde2c"), looks := false }, kinds := [], alts := [], laidByText := true, laidKinds := [.data, .pinned], laidTests := true, laidLooks := .later }
def ValuesUptoCardSaid : Prop := Claim7.holds Tryz.pinned (.plain (OpenSpec.upto valuesSpec)) valuesUptoCard

/-- THE SECOND FORM's CARD OF 'masonlaw.Expands'. -/
def expandsUptoCard : Claim7 := { stood := { row := expandsUptoRow, standIns := [], harness := (true, "bc895a84913fd784f9c34ee99b9f9653e8d78bfcde91ea38b82ee48c2b1fde2c"), looks := false }, kinds := [], alts := [], laidByText := true, laidKinds := [.data, .pinned], laidTests := true, laidLooks := .later }
def ExpandsUptoCardSaid : Prop := Claim7.holds Tryz.pinned (.plain (OpenSpec.upto expandsSpec)) expandsUptoCard
end Rows
end Go.Proofs.YtpilijfapepheaaGreatDoor
