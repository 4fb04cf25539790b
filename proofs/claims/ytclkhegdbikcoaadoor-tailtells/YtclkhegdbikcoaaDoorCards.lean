/-
  DERIVED. GIVEN WITH THE SEED: THE CARDS: each row of YtclkhegdbikcoaaDoorRows.lean that lists a variable, with what it lists TIED to the program's text (the seventh form; the later family's looks); each row that meets fmt, with fmt's text TOLD by the authors' own Lean function (tested against real Go, not proved from fmt's source: count such statements apart). THE CARD IS WHAT COUNTS. Prove the row's statement (the work); the ties are given (YtclkhegdbikcoaaDoorTie.lean); close each card by the builder's one call (the guide's Derived/Test/ToyasCard.lean, 'card_holds'). Laid BY PROGRAM, IN A SANDBOX (cutbox-door.mjs). By AI agents, Wed Nov 11 2026. No macro, syntax, notation, axiom, sorry.
-/
import Derived.Test.YtclkhegdbikcoaaDoorRows
import GoSem.ClaimSeven
namespace Go.Proofs.YtclkhegdbikcoaaDoor
namespace Rows

/-- THE TIED CARD OF 'pointsmanlaw2.TailTells'. -/
def tailTellsCard : Claim7 := { stood := { row := tailTellsRow, standIns := [], harness := (true, "ba830b2434fbc724c5723a5e7a899d00c87994bd5bcd6ae53dc69574c4ca0943"), looks := true }, kinds := [], alts := [], laidByText := true, laidKinds := [.handle], laidTests := true, laidLooks := .later }
def TailTellsCardSaid : Prop := Claim7.holds Tryd.pinned (.plain (OpenSpec.ofChange tailTellsSpec)) tailTellsCard

/-- THE SECOND FORM's CARD OF 'pointsmanlaw2.TailTells'. -/
def tailTellsUptoCard : Claim7 := { stood := { row := tailTellsUptoRow, standIns := [], harness := (true, "ba830b2434fbc724c5723a5e7a899d00c87994bd5bcd6ae53dc69574c4ca0943"), looks := true }, kinds := [], alts := [], laidByText := true, laidKinds := [.handle], laidTests := true, laidLooks := .later }
def TailTellsUptoCardSaid : Prop := Claim7.holds Tryd.pinned (.plain (OpenSpec.upto tailTellsSpec)) tailTellsUptoCard
end Rows
end Go.Proofs.YtclkhegdbikcoaaDoor
