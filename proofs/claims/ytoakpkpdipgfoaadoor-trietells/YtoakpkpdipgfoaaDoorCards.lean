/-
  DERIVED. GIVEN WITH THE SEED: THE CARDS: each row of YtoakpkpdipgfoaaDoorRows.lean that lists a variable, with what it lists TIED to the program's text (the seventh form; the later family's looks); each row that meets fmt, with fmt's text TOLD by the authors' own Lean function (tested against real Go, not proved from fmt's source: count such statements apart). THE CARD IS WHAT COUNTS. Prove the row's statement (the work); the ties are given (YtoakpkpdipgfoaaDoorTie.lean); close each card by the builder's one call (the guide's Derived/Test/ToyasCard.lean, 'card_holds'). Laid BY PROGRAM, IN A SANDBOX (cutbox-door.mjs). By AI agents, Wed Nov 11 2026. No macro, syntax, notation, axiom, sorry.
-/
import Derived.Test.YtoakpkpdipgfoaaDoorRows
import GoSem.ClaimSeven
namespace Go.Proofs.YtoakpkpdipgfoaaDoor
namespace Rows

/-- THE TIED CARD OF 'pointsmanlaw2.TrieTells'. -/
def trieTellsCard : Claim7 := { stood := { row := trieTellsRow, standIns := [], harness := (true, "fe71ff0e4a9d3dbbcf24193f83ffe59f79a66d9da48d1c0c0f7020bc6caa09b9"), looks := true }, kinds := [], alts := [], laidByText := true, laidKinds := [.handle], laidTests := true, laidLooks := .later }
def TrieTellsCardSaid : Prop := Claim7.holds Tryd.pinned (.plain (OpenSpec.ofChange trieTellsSpec)) trieTellsCard

/-- THE SECOND FORM's CARD OF 'pointsmanlaw2.TrieTells'. -/
def trieTellsUptoCard : Claim7 := { stood := { row := trieTellsUptoRow, standIns := [], harness := (true, "fe71ff0e4a9d3dbbcf24193f83ffe59f79a66d9da48d1c0c0f7020bc6caa09b9"), looks := true }, kinds := [], alts := [], laidByText := true, laidKinds := [.handle], laidTests := true, laidLooks := .later }
def TrieTellsUptoCardSaid : Prop := Claim7.holds Tryd.pinned (.plain (OpenSpec.upto trieTellsSpec)) trieTellsUptoCard
end Rows
end Go.Proofs.YtoakpkpdipgfoaaDoor
