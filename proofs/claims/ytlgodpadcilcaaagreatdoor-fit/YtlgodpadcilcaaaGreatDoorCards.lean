/-
  DERIVED. GIVEN WITH THE SEED: THE CARDS: each row of YtlgodpadcilcaaaGreatDoorRows.lean that lists a variable, with what it lists TIED to the program's text (the seventh form; the later family's looks); each row that meets fmt, with fmt's text TOLD by the authors' own Lean function (tested against real Go, not proved from fmt's source: count such statements apart). THE CARD IS WHAT COUNTS. Prove the row's statement (the work); the ties are given (YtlgodpadcilcaaaGreatDoorTie.lean); close each card by the builder's one call (the guide's Derived/Test/ToyasCard.lean, 'card_holds'). Laid BY PROGRAM, IN A SANDBOX (cutbox-door.mjs). By AI agents, Wed Nov 11 2026. No macro, syntax, notation, axiom, sorry.
-/
import Derived.Test.YtlgodpadcilcaaaGreatDoorRows
import GoSem.ClaimSeven
namespace Go.Proofs.YtlgodpadcilcaaaGreatDoor
namespace Rows

/-- THE TIED CARD OF 'wardenlaw.Fit'. -/
def fitCard : Claim7 := { stood := { row := fitRow, standIns := [], harness := (true, "75fed0249ec7625f3d542f1c0a22fdc0714ee30a3c4be4b92b659b56fb5d4a5f"), looks := false }, kinds := [], alts := [], laidByText := true, laidKinds := [.data, .pinned], laidTests := true, laidLooks := .later }
def FitCardSaid : Prop := Claim7.holds Tryz.pinned (.plain (OpenSpec.ofChange fitSpec)) fitCard

/-- THE SECOND FORM's CARD OF 'wardenlaw.Fit'. -/
def fitUptoCard : Claim7 := { stood := { row := fitUptoRow, standIns := [], harness := (true, "75fed0249ec7625f3d542f1c0a22fdc0714ee30a3c4be4b92b659b56fb5d4a5f"), looks := false }, kinds := [], alts := [], laidByText := true, laidKinds := [.data, .pinned], laidTests := true, laidLooks := .later }
def FitUptoCardSaid : Prop := Claim7.holds Tryz.pinned (.plain (OpenSpec.upto fitSpec)) fitUptoCard
end Rows
end Go.Proofs.YtlgodpadcilcaaaGreatDoor
