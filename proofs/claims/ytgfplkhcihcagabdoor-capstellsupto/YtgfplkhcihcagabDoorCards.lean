/-
  DERIVED. GIVEN WITH THE SEED: THE CARDS: each row of YtgfplkhcihcagabDoorRows.lean that lists a variable, with what it lists TIED to the program's text (the seventh form; the later family's looks); each row that meets fmt, with fmt's text TOLD by the authors' own Lean function (tested against real Go, not proved from fmt's source: count such statements apart). THE CARD IS WHAT COUNTS. Prove the row's statement (the work); the ties are given (YtgfplkhcihcagabDoorTie.lean); close each card by the builder's one call (the guide's Derived/Test/ToyasCard.lean, 'card_holds'). Laid BY PROGRAM, IN A SANDBOX (cutbox-door.mjs). By AI agents, Wed Nov 11 2026. No macro, syntax, notation, axiom, sorry.
-/
import Derived.Test.YtgfplkhcihcagabDoorRows
import GoSem.ClaimSeven
namespace Go.Proofs.YtgfplkhcihcagabDoor
namespace Rows

/-- THE TIED CARD OF 'pointsmanlaw2.CapsTells'. -/
def capsTellsCard : Claim7 := { stood := { row := capsTellsRow, standIns := [], harness := (true, "92ee9ca9aa9f1e4477997e62172b9cbd2062509a486c9ac8e8cc1559ce6c9cdf"), looks := true }, kinds := [], alts := [], laidByText := true, laidKinds := [.handle], laidTests := true, laidLooks := .later }
def CapsTellsCardSaid : Prop := Claim7.holds Tryd.pinned (.plain (OpenSpec.ofChange capsTellsSpec)) capsTellsCard

/-- THE SECOND FORM's CARD OF 'pointsmanlaw2.CapsTells'. -/
def capsTellsUptoCard : Claim7 := { stood := { row := capsTellsUptoRow, standIns := [], harness := (true, "92ee9ca9aa9f1e4477997e62172b9cbd2062509a486c9ac8e8cc1559ce6c9cdf"), looks := true }, kinds := [], alts := [], laidByText := true, laidKinds := [.handle], laidTests := true, laidLooks := .later }
def CapsTellsUptoCardSaid : Prop := Claim7.holds Tryd.pinned (.plain (OpenSpec.upto capsTellsSpec)) capsTellsUptoCard
end Rows
end Go.Proofs.YtgfplkhcihcagabDoor
