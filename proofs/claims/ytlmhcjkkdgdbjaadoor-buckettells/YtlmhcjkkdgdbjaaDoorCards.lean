/-
  DERIVED. GIVEN WITH THE SEED: THE CARDS: each row of YtlmhcjkkdgdbjaaDoorRows.lean that lists a variable, with what it lists TIED to the program's text (the seventh form; the later family's looks); each row that meets fmt, with fmt's text TOLD by the authors' own Lean function (tested against real Go, not proved from fmt's source: count such statements apart). THE CARD IS WHAT COUNTS. Prove the row's statement (the work); the ties are given (YtlmhcjkkdgdbjaaDoorTie.lean); close each card by the builder's one call (the guide's Derived/Test/ToyasCard.lean, 'card_holds'). Laid BY PROGRAM, IN A SANDBOX (cutbox-door.mjs). By AI agents, Wed Nov 11 2026. No macro, syntax, notation, axiom, sorry.
-/
import Derived.Test.YtlmhcjkkdgdbjaaDoorRows
import GoSem.ClaimSeven
namespace Go.Proofs.YtlmhcjkkdgdbjaaDoor
namespace Rows

/-- THE TIED CARD OF 'pointsmanlaw2.BucketTells'. -/
def bucketTellsCard : Claim7 := { stood := { row := bucketTellsRow, standIns := [], harness := (true, "b6cfd6572556d7b84dbacce28bf4df239aaf5ac66901a9376d1a09d4f08c7bef"), looks := true }, kinds := [], alts := [], laidByText := true, laidKinds := [.handle], laidTests := true, laidLooks := .later }
def BucketTellsCardSaid : Prop := Claim7.holds Tryd.pinned (.plain (OpenSpec.ofChange bucketTellsSpec)) bucketTellsCard

/-- THE SECOND FORM's CARD OF 'pointsmanlaw2.BucketTells'. -/
def bucketTellsUptoCard : Claim7 := { stood := { row := bucketTellsUptoRow, standIns := [], harness := (true, "b6cfd6572556d7b84dbacce28bf4df239aaf5ac66901a9376d1a09d4f08c7bef"), looks := true }, kinds := [], alts := [], laidByText := true, laidKinds := [.handle], laidTests := true, laidLooks := .later }
def BucketTellsUptoCardSaid : Prop := Claim7.holds Tryd.pinned (.plain (OpenSpec.upto bucketTellsSpec)) bucketTellsUptoCard
end Rows
end Go.Proofs.YtlmhcjkkdgdbjaaDoor
