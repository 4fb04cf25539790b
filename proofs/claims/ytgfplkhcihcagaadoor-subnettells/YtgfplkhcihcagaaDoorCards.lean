/-
  DERIVED. GIVEN WITH THE SEED: THE CARDS: each row of YtgfplkhcihcagaaDoorRows.lean that lists a variable, with what it lists TIED to the program's text (the seventh form; the later family's looks); each row that meets fmt, with fmt's text TOLD by the authors' own Lean function (tested against real Go, not proved from fmt's source: count such statements apart). THE CARD IS WHAT COUNTS. Prove the row's statement (the work); the ties are given (YtgfplkhcihcagaaDoorTie.lean); close each card by the builder's one call (the guide's Derived/Test/ToyasCard.lean, 'card_holds'). Laid BY PROGRAM, IN A SANDBOX (cutbox-door.mjs). By AI agents, Wed Nov 11 2026. No macro, syntax, notation, axiom, sorry.
-/
import Derived.Test.YtgfplkhcihcagaaDoorRows
import GoSem.ClaimSeven
namespace Go.Proofs.YtgfplkhcihcagaaDoor
namespace Rows

/-- THE TIED CARD OF 'pointsmanlaw1.MsgTells'. -/
def msgTellsCard : Claim7 := { stood := { row := msgTellsRow, standIns := [], harness := (true, "f0db144a8a09de09519753be9194a0ebdf7191b948c60daf2706be9ee4c9705b"), looks := true }, kinds := [], alts := [], laidByText := true, laidKinds := [.handle], laidTests := true, laidLooks := .later }
def MsgTellsCardSaid : Prop := Claim7.holds Tryd.pinned (.plain (OpenSpec.ofChange msgTellsSpec)) msgTellsCard

/-- THE TIED CARD OF 'pointsmanlaw2.EdnsTells'. -/
def ednsTellsCard : Claim7 := { stood := { row := ednsTellsRow, standIns := [], harness := (true, "f0db144a8a09de09519753be9194a0ebdf7191b948c60daf2706be9ee4c9705b"), looks := true }, kinds := [], alts := [], laidByText := true, laidKinds := [.handle], laidTests := true, laidLooks := .later }
def EdnsTellsCardSaid : Prop := Claim7.holds Tryd.pinned (.plain (OpenSpec.ofChange ednsTellsSpec)) ednsTellsCard

/-- THE TIED CARD OF 'pointsmanlaw2.EdnsLens'. -/
def ednsLensCard : Claim7 := { stood := { row := ednsLensRow, standIns := [], harness := (true, "f0db144a8a09de09519753be9194a0ebdf7191b948c60daf2706be9ee4c9705b"), looks := true }, kinds := [], alts := [], laidByText := true, laidKinds := [.handle], laidTests := true, laidLooks := .later }
def EdnsLensCardSaid : Prop := Claim7.holds Tryd.pinned (.plain (OpenSpec.ofChange ednsLensSpec)) ednsLensCard

/-- THE TIED CARD OF 'pointsmanlaw2.SubnetTells'. -/
def subnetTellsCard : Claim7 := { stood := { row := subnetTellsRow, standIns := [], harness := (true, "f0db144a8a09de09519753be9194a0ebdf7191b948c60daf2706be9ee4c9705b"), looks := true }, kinds := [], alts := [], laidByText := true, laidKinds := [.handle], laidTests := true, laidLooks := .later }
def SubnetTellsCardSaid : Prop := Claim7.holds Tryd.pinned (.plain (OpenSpec.ofChange subnetTellsSpec)) subnetTellsCard

/-- THE SECOND FORM's CARD OF 'pointsmanlaw1.MsgTells'. -/
def msgTellsUptoCard : Claim7 := { stood := { row := msgTellsUptoRow, standIns := [], harness := (true, "f0db144a8a09de09519753be9194a0ebdf7191b948c60daf2706be9ee4c9705b"), looks := true }, kinds := [], alts := [], laidByText := true, laidKinds := [.handle], laidTests := true, laidLooks := .later }
def MsgTellsUptoCardSaid : Prop := Claim7.holds Tryd.pinned (.plain (OpenSpec.upto msgTellsSpec)) msgTellsUptoCard

/-- THE SECOND FORM's CARD OF 'pointsmanlaw2.EdnsTells'. -/
def ednsTellsUptoCard : Claim7 := { stood := { row := ednsTellsUptoRow, standIns := [], harness := (true, "f0db144a8a09de09519753be9194a0ebdf7191b948c60daf2706be9ee4c9705b"), looks := true }, kinds := [], alts := [], laidByText := true, laidKinds := [.handle], laidTests := true, laidLooks := .later }
def EdnsTellsUptoCardSaid : Prop := Claim7.holds Tryd.pinned (.plain (OpenSpec.upto ednsTellsSpec)) ednsTellsUptoCard

/-- THE SECOND FORM's CARD OF 'pointsmanlaw2.EdnsLens'. -/
def ednsLensUptoCard : Claim7 := { stood := { row := ednsLensUptoRow, standIns := [], harness := (true, "f0db144a8a09de09519753be9194a0ebdf7191b948c60daf2706be9ee4c9705b"), looks := true }, kinds := [], alts := [], laidByText := true, laidKinds := [.handle], laidTests := true, laidLooks := .later }
def EdnsLensUptoCardSaid : Prop := Claim7.holds Tryd.pinned (.plain (OpenSpec.upto ednsLensSpec)) ednsLensUptoCard

/-- THE SECOND FORM's CARD OF 'pointsmanlaw2.SubnetTells'. -/
def subnetTellsUptoCard : Claim7 := { stood := { row := subnetTellsUptoRow, standIns := [], harness := (true, "f0db144a8a09de09519753be9194a0ebdf7191b948c60daf2706be9ee4c9705b"), looks := true }, kinds := [], alts := [], laidByText := true, laidKinds := [.handle], laidTests := true, laidLooks := .later }
def SubnetTellsUptoCardSaid : Prop := Claim7.holds Tryd.pinned (.plain (OpenSpec.upto subnetTellsSpec)) subnetTellsUptoCard
end Rows
end Go.Proofs.YtgfplkhcihcagaaDoor
