/-
  DERIVED. GIVEN WITH THE SEED: THE CARDS: each row of YtlgodpadcilcaaaDoorRows.lean that lists a variable, with what it lists TIED to the program's text (the seventh form; the later family's looks); each row that meets fmt, with fmt's text TOLD by the authors' own Lean function (tested against real Go, not proved from fmt's source: count such statements apart). THE CARD IS WHAT COUNTS. Prove the row's statement (the work); the ties are given (YtlgodpadcilcaaaDoorTie.lean); close each card by the builder's one call (the guide's Derived/Test/ToyasCard.lean, 'card_holds'). Laid BY PROGRAM, IN A SANDBOX (cutbox-door.mjs). By AI agents, Wed Nov 11 2026. No macro, syntax, notation, axiom, sorry.
-/
import Derived.Test.YtlgodpadcilcaaaDoorRows
import GoSem.ClaimSeven
namespace Go.Proofs.YtlgodpadcilcaaaDoor
namespace Rows

/-- THE TIED CARD OF 'wardenlaw.Schemas'. -/
def schemasCard : Claim7 := { stood := { row := schemasRow, standIns := [], harness := (true, "f2b6a7e1ea9f293862f85fb9e13d99d8cd87dc54b9dc2399ce8a51c2b8775b11"), looks := false }, kinds := [], alts := [], laidByText := true, laidKinds := [.data, .pinned], laidTests := true, laidLooks := .later }
def SchemasCardSaid : Prop := Claim7.holds Tryd.pinned (.plain (OpenSpec.ofChange schemasSpec)) schemasCard

/-- THE SECOND FORM's CARD OF 'wardenlaw.Schemas'. -/
def schemasUptoCard : Claim7 := { stood := { row := schemasUptoRow, standIns := [], harness := (true, "f2b6a7e1ea9f293862f85fb9e13d99d8cd87dc54b9dc2399ce8a51c2b8775b11"), looks := false }, kinds := [], alts := [], laidByText := true, laidKinds := [.data, .pinned], laidTests := true, laidLooks := .later }
def SchemasUptoCardSaid : Prop := Claim7.holds Tryd.pinned (.plain (OpenSpec.upto schemasSpec)) schemasUptoCard
end Rows
end Go.Proofs.YtlgodpadcilcaaaDoor
