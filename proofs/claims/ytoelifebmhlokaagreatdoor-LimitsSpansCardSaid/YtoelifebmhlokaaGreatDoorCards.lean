/-
  DERIVED. GIVEN WITH THE SEED: THE CARDS: each row of YtoelifebmhlokaaGreatDoorRows.lean that lists a variable, with what it lists TIED to the program's text (the seventh form; the later family's looks); each row that meets fmt, with fmt's text TOLD by the authors' own Lean function (tested against real Go, not proved from fmt's source: count such statements apart). THE CARD IS WHAT COUNTS. Prove the row's statement (the work); the ties are given (YtoelifebmhlokaaGreatDoorTie.lean); close each card by the builder's one call (the guide's Derived/Test/ToyasCard.lean, 'card_holds'). Laid BY PROGRAM, IN A SANDBOX (cutbox-door.mjs). By AI agents, Wed Nov 11 2026. No macro, syntax, notation, axiom, sorry.
-/
import Derived.Test.YtoelifebmhlokaaGreatDoorRows
import GoSem.ClaimSeven
namespace Go.Proofs.YtoelifebmhlokaaGreatDoor
namespace Rows

/-- THE TIED CARD OF 'examinerlaw04.LimitsSpans'. -/
def limitsSpansCard : Claim7 := { stood := { row := limitsSpansRow, standIns := [], harness := (true, "508973cf101055701e9dc0b2d3218d92b250627964c0cd8ab96124efef952e7e"), looks := false }, kinds := [], alts := [], laidByText := true, laidKinds := [.data, .data, .data, .data, .pinned], laidTests := true, laidLooks := .later }
def LimitsSpansCardSaid : Prop := Claim7.holds Tryz.pinned (.plain (OpenSpec.ofChange limitsSpansSpec)) limitsSpansCard

/-- THE SECOND FORM's CARD OF 'examinerlaw04.LimitsSpans'. -/
def limitsSpansUptoCard : Claim7 := { stood := { row := limitsSpansUptoRow, standIns := [], harness := (true, "508973cf101055701e9dc0b2d3218d92b250627964c0cd8ab96124efef952e7e"), looks := false }, kinds := [], alts := [], laidByText := true, laidKinds := [.data, .data, .data, .data, .pinned], laidTests := true, laidLooks := .later }
def LimitsSpansUptoCardSaid : Prop := Claim7.holds Tryz.pinned (.plain (OpenSpec.upto limitsSpansSpec)) limitsSpansUptoCard
end Rows
end Go.Proofs.YtoelifebmhlokaaGreatDoor
