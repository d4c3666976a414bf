/-
  DERIVED. GIVEN WITH THE SEED: THE CARDS: each row of YtidioioldlmciaaDoorRows.lean that lists a variable, with what it lists TIED to the program's text (the seventh form; the later family's looks); each row that meets fmt, with fmt's text TOLD by the authors' own Lean function (tested against real Go, not proved from fmt's source: count such statements apart). THE CARD IS WHAT COUNTS. Prove the row's statement (the work); the ties are given (YtidioioldlmciaaDoorTie.lean); close each card by the builder's one call (the guide's Derived/Test/ToyasCard.lean, 'card_holds'). Laid BY PROGRAM, IN A SANDBOX (cutbox-door.mjs). By AI agents, Wed Nov 11 2026. No macro, syntax, notation, axiom, sorry.
-/
import Derived.Test.YtidioioldlmciaaDoorRows
import GoSem.ClaimSeven
namespace Go.Proofs.YtidioioldlmciaaDoor
namespace Rows

/-- THE TIED CARD OF 'siltlaw.Trees'. -/
def treesCard : Claim7 := { stood := { row := treesRow, standIns := [], harness := (true, "1f600ad341ca6d00bb27ef64649710ae3ef0ea7588d5e24511895a76bd4ae0fd"), looks := true }, kinds := [], alts := [], laidByText := true, laidKinds := [.data, .pinned], laidTests := true, laidLooks := .later }
def TreesCardSaid : Prop := Claim7.holds Tryd.pinned (.plain (OpenSpec.ofChange treesSpec)) treesCard

/-- THE SECOND FORM's CARD OF 'siltlaw.Trees'. -/
def treesUptoCard : Claim7 := { stood := { row := treesUptoRow, standIns := [], harness := (true, "1f600ad341ca6d00bb27ef64649710ae3ef0ea7588d5e24511895a76bd4ae0fd"), looks := true }, kinds := [], alts := [], laidByText := true, laidKinds := [.data, .pinned], laidTests := true, laidLooks := .later }
def TreesUptoCardSaid : Prop := Claim7.holds Tryd.pinned (.plain (OpenSpec.upto treesSpec)) treesUptoCard
end Rows
end Go.Proofs.YtidioioldlmciaaDoor
