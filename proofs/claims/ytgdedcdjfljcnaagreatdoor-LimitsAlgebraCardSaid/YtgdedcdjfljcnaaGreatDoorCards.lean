/-
  DERIVED. GIVEN WITH THE SEED: THE CARDS: each row of YtgdedcdjfljcnaaGreatDoorRows.lean that lists a variable, with what it lists TIED to the program's text (the seventh form; the later family's looks); each row that meets fmt, with fmt's text TOLD by the authors' own Lean function (tested against real Go, not proved from fmt's source: count such statements apart). THE CARD IS WHAT COUNTS. Prove the row's statement (the work); the ties are given (YtgdedcdjfljcnaaGreatDoorTie.lean); close each card by the builder's one call (the guide's Derived/Test/ToyasCard.lean, 'card_holds'). Laid BY PROGRAM, IN A SANDBOX (cutbox-door.mjs). By AI agents, Wed Nov 11 2026. No macro, syntax, notation, axiom, sorry.
-/
import Derived.Test.YtgdedcdjfljcnaaGreatDoorRows
import GoSem.ClaimSeven
namespace Go.Proofs.YtgdedcdjfljcnaaGreatDoor
namespace Rows

/-- THE TIED CARD OF 'examinerlaw04.LimitsAlgebra'. -/
def limitsAlgebraCard : Claim7 := { stood := { row := limitsAlgebraRow, standIns := [], harness := (true, "84c2f282aeeff8e6fc3c7d42b0c8d741d0f7088a6b39d1de00553dd14d4fe0d5"), looks := false }, kinds := [], alts := [], laidByText := true, laidKinds := [.data, .data, .data, .data, .pinned], laidTests := true, laidLooks := .later }
def LimitsAlgebraCardSaid : Prop := Claim7.holds Tryz.pinned (.plain (OpenSpec.ofChange limitsAlgebraSpec)) limitsAlgebraCard

/-- THE SECOND FORM's CARD OF 'examinerlaw04.LimitsAlgebra'. -/
def limitsAlgebraUptoCard : Claim7 := { stood := { row := limitsAlgebraUptoRow, standIns := [], harness := (true, "84c2f282aeeff8e6fc3c7d42b0c8d741d0f7088a6b39d1de00553dd14d4fe0d5"), looks := false }, kinds := [], alts := [], laidByText := true, laidKinds := [.data, .data, .data, .data, .pinned], laidTests := true, laidLooks := .later }
def LimitsAlgebraUptoCardSaid : Prop := Claim7.holds Tryz.pinned (.plain (OpenSpec.upto limitsAlgebraSpec)) limitsAlgebraUptoCard
end Rows
end Go.Proofs.YtgdedcdjfljcnaaGreatDoor
