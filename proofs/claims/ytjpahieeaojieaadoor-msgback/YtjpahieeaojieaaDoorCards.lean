/-
  DERIVED. GIVEN WITH THE SEED: THE CARDS: each row of YtjpahieeaojieaaDoorRows.lean that lists a variable, with what it lists TIED to the program's text (the seventh form; the later family's looks); each row that meets fmt, with fmt's text TOLD by the authors' own Lean function (tested against real Go, not proved from fmt's source: count such statements apart). THE CARD IS WHAT COUNTS. Prove the row's statement (the work); the ties are given (YtjpahieeaojieaaDoorTie.lean); close each card by the builder's one call (the guide's Derived/Test/ToyasCard.lean, 'card_holds'). Laid BY PROGRAM, IN A SANDBOX (cutbox-door.mjs). By AI agents, Wed Nov 11 2026. No macro, syntax, notation, axiom, sorry.
-/
import Derived.Test.YtjpahieeaojieaaDoorRows
import GoSem.ClaimSeven
namespace Go.Proofs.YtjpahieeaojieaaDoor
namespace Rows

/-- THE TIED CARD OF 'pointsmanlaw1.HeadTells'. -/
def headTellsCard : Claim7 := { stood := { row := headTellsRow, standIns := [], harness := (true, "bab06aa12a956d009d36b0de0649bae268506bf57e6c3a51dde20ac91f6e4300"), looks := true }, kinds := [], alts := [], laidByText := true, laidKinds := [.handle], laidTests := true, laidLooks := .later }
def HeadTellsCardSaid : Prop := Claim7.holds Tryd.pinned (.plain (OpenSpec.ofChange headTellsSpec)) headTellsCard

/-- THE TIED CARD OF 'pointsmanlaw1.MsgTells'. -/
def msgTellsCard : Claim7 := { stood := { row := msgTellsRow, standIns := [], harness := (true, "bab06aa12a956d009d36b0de0649bae268506bf57e6c3a51dde20ac91f6e4300"), looks := true }, kinds := [], alts := [], laidByText := true, laidKinds := [.handle], laidTests := true, laidLooks := .later }
def MsgTellsCardSaid : Prop := Claim7.holds Tryd.pinned (.plain (OpenSpec.ofChange msgTellsSpec)) msgTellsCard

/-- THE TIED CARD OF 'pointsmanlaw1.MsgBack'. -/
def msgBackCard : Claim7 := { stood := { row := msgBackRow, standIns := [], harness := (true, "bab06aa12a956d009d36b0de0649bae268506bf57e6c3a51dde20ac91f6e4300"), looks := true }, kinds := [], alts := [], laidByText := true, laidKinds := [.handle], laidTests := true, laidLooks := .later }
def MsgBackCardSaid : Prop := Claim7.holds Tryd.pinned (.plain (OpenSpec.ofChange msgBackSpec)) msgBackCard

/-- THE TIED CARD OF 'pointsmanlaw1.MsgTorn'. -/
def msgTornCard : Claim7 := { stood := { row := msgTornRow, standIns := [], harness := (true, "bab06aa12a956d009d36b0de0649bae268506bf57e6c3a51dde20ac91f6e4300"), looks := true }, kinds := [], alts := [], laidByText := true, laidKinds := [.handle], laidTests := true, laidLooks := .later }
def MsgTornCardSaid : Prop := Claim7.holds Tryd.pinned (.plain (OpenSpec.ofChange msgTornSpec)) msgTornCard

/-- THE SECOND FORM's CARD OF 'pointsmanlaw1.HeadTells'. -/
def headTellsUptoCard : Claim7 := { stood := { row := headTellsUptoRow, standIns := [], harness := (true, "bab06aa12a956d009d36b0de0649bae268506bf57e6c3a51dde20ac91f6e4300"), looks := true }, kinds := [], alts := [], laidByText := true, laidKinds := [.handle], laidTests := true, laidLooks := .later }
def HeadTellsUptoCardSaid : Prop := Claim7.holds Tryd.pinned (.plain (OpenSpec.upto headTellsSpec)) headTellsUptoCard

/-- THE SECOND FORM's CARD OF 'pointsmanlaw1.MsgTells'. -/
def msgTellsUptoCard : Claim7 := { stood := { row := msgTellsUptoRow, standIns := [], harness := (true, "bab06aa12a956d009d36b0de0649bae268506bf57e6c3a51dde20ac91f6e4300"), looks := true }, kinds := [], alts := [], laidByText := true, laidKinds := [.handle], laidTests := true, laidLooks := .later }
def MsgTellsUptoCardSaid : Prop := Claim7.holds Tryd.pinned (.plain (OpenSpec.upto msgTellsSpec)) msgTellsUptoCard

/-- THE SECOND FORM's CARD OF 'pointsmanlaw1.MsgBack'. -/
def msgBackUptoCard : Claim7 := { stood := { row := msgBackUptoRow, standIns := [], harness := (true, "bab06aa12a956d009d36b0de0649bae268506bf57e6c3a51dde20ac91f6e4300"), looks := true }, kinds := [], alts := [], laidByText := true, laidKinds := [.handle], laidTests := true, laidLooks := .later }
def MsgBackUptoCardSaid : Prop := Claim7.holds Tryd.pinned (.plain (OpenSpec.upto msgBackSpec)) msgBackUptoCard

/-- THE SECOND FORM's CARD OF 'pointsmanlaw1.MsgTorn'. -/
def msgTornUptoCard : Claim7 := { stood := { row := msgTornUptoRow, standIns := [], harness := (true, "bab06aa12a956d009d36b0de0649bae268506bf57e6c3a51dde20ac91f6e4300"), looks := true }, kinds := [], alts := [], laidByText := true, laidKinds := [.handle], laidTests := true, laidLooks := .later }
def MsgTornUptoCardSaid : Prop := Claim7.holds Tryd.pinned (.plain (OpenSpec.upto msgTornSpec)) msgTornUptoCard
end Rows
end Go.Proofs.YtjpahieeaojieaaDoor
