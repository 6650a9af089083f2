/-
  DERIVED. GIVEN WITH THE SEED: THE CARDS: each row of YtfmpcchlpplanaaGreatDoorRows.lean that lists a variable, with what it lists TIED to the program's text (the seventh form; the later family's looks); each row that meets fmt, with fmt's text TOLD by the authors' own Lean function (tested against real Go, not proved from fmt's source: count such statements apart). THE CARD IS WHAT COUNTS. Prove the row's statement (the work); the ties are given (YtfmpcchlpplanaaGreatDoorTie.lean); close each card by the builder's one call (the guide's Derived/Test/ToyasCard.lean, 'card_holds'). Laid BY PROGRAM, IN A SANDBOX (cutbox-door.mjs). By AI agents, Wed Nov 11 2026. No macro, syntax, notation, axiom, sorry.
-/
import Derived.Test.YtfmpcchlpplanaaGreatDoorRows
import GoSem.ClaimSeven
namespace Go.Proofs.YtfmpcchlpplanaaGreatDoor
namespace Rows

/-- THE TIED CARD OF 'examinerlaw01.LexisTables'. -/
def lexisTablesCard : Claim7 := { stood := { row := lexisTablesRow, standIns := [], harness := (true, "8d8ac7bb97185f0dff9d90bfd0916efd4026ed02e7b34d7a0fb72dfc2c52342a"), looks := true }, kinds := [], alts := [], laidByText := true, laidKinds := [.data, .data, .data, .data, .sentinel, .sentinel, .listed, .data, .pinned], laidTests := true, laidLooks := .later }
def LexisTablesCardSaid : Prop := Claim7.holds Tryz.pinned (.plain (OpenSpec.ofChange lexisTablesSpec)) lexisTablesCard

/-- THE SECOND FORM's CARD OF 'examinerlaw01.LexisTables'. -/
def lexisTablesUptoCard : Claim7 := { stood := { row := lexisTablesUptoRow, standIns := [], harness := (true, "8d8ac7bb97185f0dff9d90bfd0916efd4026ed02e7b34d7a0fb72dfc2c52342a"), looks := true }, kinds := [], alts := [], laidByText := true, laidKinds := [.data, .data, .data, .data, .sentinel, .sentinel, .listed, .data, .pinned], laidTests := true, laidLooks := .later }
def LexisTablesUptoCardSaid : Prop := Claim7.holds Tryz.pinned (.plain (OpenSpec.upto lexisTablesSpec)) lexisTablesUptoCard
end Rows
end Go.Proofs.YtfmpcchlpplanaaGreatDoor
