/-
  No cell of these rows narrows 'for every input' (looked for: loops, veiled, ifaces, maps, wideKeys, modest, calm, conditions, laid).
  DERIVED. THE GIVEN ROWS OF THIS SEAT. 4 by the template 'for every input the law returns true; each argument reads behind the call as it read before'; 0 by the template 'total and deterministic' (their statements: YtgfplkhcihcagabTotals.lean).
  GIVEN WITH THE SEED: the statements are not yours to turn. If you find one false, say at which input.
  Laid BY PROGRAM, IN A SANDBOX (cutbox-rows.mjs): the forced cells as the released guide's own fill.sh prints them over the translation 52f1cd3e2cab03ca… (all of the seat's roots in one cut). By AI agents, Wed Nov 11 2026. No macro, syntax, notation, axiom, sorry.
-/
import Derived.Test.YtgfplkhcihcagabChecked
import GoSem.Claim
import GoSem.ClaimJoined
import GoSem.ClaimMapViews
import Derived.JoinedTies
import Derived.KernelRfl
namespace Go.Proofs.Ytgfplkhcihcagab
/- THE CELL 'sum', in the pinned program and in every row, IS THE sha256 OF THE DUMP (.gsa) THAT YtgfplkhcihcagabProg.lean LOADS. Nothing in Lean hashes anything: it is a label: what it is worth is what the hold of that sum in a sandbox is worth. -/
noncomputable def Try.pinned : Pinned := { name := "ytgfplkhcihcagab", sum := "52f1cd3e2cab03ca54c4b35aef56ba78a334b697f96da801b128c39825dc98b9", checked := Try.checked }
namespace Rows
def none {H : Type} : Left H := { results := [], args := [] }

/-- 'pointsmanlaw2.SubnetMasks': WHATEVER THE INPUT: true; the input reads as it did. -/
def subnetMasksSpec : ChangeSpec := { name := "subnetMasks", fn := fun _ => fun
  | [d1, d2, d3, d4, d5] => { results := [.lit (.bool true)], args := [d1, d2, d3, d4, d5] }
  | _ => none }
def subnetMasksRow : OpenClaim := { program := "ytgfplkhcihcagab", sum := "52f1cd3e2cab03ca54c4b35aef56ba78a334b697f96da801b128c39825dc98b9", func := "pointsman/pointsmanlaw2.SubnetMasks", spec := "subnetMasks", apart := false }
def SubnetMasksSaid : Prop := subnetMasksRow.holds Try.pinned (OpenSpec.ofChange subnetMasksSpec)

/-- ITS FALSE NEIGHBOUR: 'it returns false'. Refute it at one input. -/
def subnetMasksWrong : ChangeSpec := { name := "subnetMasks", fn := fun _ => fun
  | [d1, d2, d3, d4, d5] => { results := [.lit (.bool false)], args := [d1, d2, d3, d4, d5] }
  | _ => none }
def SubnetMasksWrongFalsely : Prop := subnetMasksRow.holds Try.pinned (OpenSpec.ofChange subnetMasksWrong)

/-- 'pointsmanlaw2.SubnetNests': WHATEVER THE INPUT: true; the input reads as it did. -/
def subnetNestsSpec : ChangeSpec := { name := "subnetNests", fn := fun _ => fun
  | [d1, d2, d3, d4] => { results := [.lit (.bool true)], args := [d1, d2, d3, d4] }
  | _ => none }
def subnetNestsRow : OpenClaim := { program := "ytgfplkhcihcagab", sum := "52f1cd3e2cab03ca54c4b35aef56ba78a334b697f96da801b128c39825dc98b9", func := "pointsman/pointsmanlaw2.SubnetNests", spec := "subnetNests", apart := false }
def SubnetNestsSaid : Prop := subnetNestsRow.holds Try.pinned (OpenSpec.ofChange subnetNestsSpec)

/-- ITS FALSE NEIGHBOUR: 'it returns false'. Refute it at one input. -/
def subnetNestsWrong : ChangeSpec := { name := "subnetNests", fn := fun _ => fun
  | [d1, d2, d3, d4] => { results := [.lit (.bool false)], args := [d1, d2, d3, d4] }
  | _ => none }
def SubnetNestsWrongFalsely : Prop := subnetNestsRow.holds Try.pinned (OpenSpec.ofChange subnetNestsWrong)

/-- 'pointsmantop.TopSubnet': WHATEVER THE INPUT: true; the input reads as it did. -/
def topSubnetSpec : ChangeSpec := { name := "topSubnet", fn := fun _ => fun
  | [d1, d2, d3] => { results := [.lit (.bool true)], args := [d1, d2, d3] }
  | _ => none }
def topSubnetRow : OpenClaim := { program := "ytgfplkhcihcagab", sum := "52f1cd3e2cab03ca54c4b35aef56ba78a334b697f96da801b128c39825dc98b9", func := "pointsman/pointsmantop.TopSubnet", spec := "topSubnet", unfollowed := true, recurses := true, apart := false }
def TopSubnetSaid : Prop := topSubnetRow.holds Try.pinned (OpenSpec.ofChange topSubnetSpec)

/-- ITS FALSE NEIGHBOUR: 'it returns false'. Refute it at one input. -/
def topSubnetWrong : ChangeSpec := { name := "topSubnet", fn := fun _ => fun
  | [d1, d2, d3] => { results := [.lit (.bool false)], args := [d1, d2, d3] }
  | _ => none }
def TopSubnetWrongFalsely : Prop := topSubnetRow.holds Try.pinned (OpenSpec.ofChange topSubnetWrong)

/-- 'pointsmanlaw2.CapsBack': WHATEVER THE INPUT: true; the input reads as it did. -/
def capsBackSpec : ChangeSpec := { name := "capsBack", fn := fun _ => fun
  | [d1, d2, d3] => { results := [.lit (.bool true)], args := [d1, d2, d3] }
  | _ => none }
def capsBackRow : OpenClaim := { program := "ytgfplkhcihcagab", sum := "52f1cd3e2cab03ca54c4b35aef56ba78a334b697f96da801b128c39825dc98b9", func := "pointsman/pointsmanlaw2.CapsBack", spec := "capsBack", unfollowed := true, recurses := true, apart := false }
def CapsBackSaid : Prop := capsBackRow.holds Try.pinned (OpenSpec.ofChange capsBackSpec)

/-- ITS FALSE NEIGHBOUR: 'it returns false'. Refute it at one input. -/
def capsBackWrong : ChangeSpec := { name := "capsBack", fn := fun _ => fun
  | [d1, d2, d3] => { results := [.lit (.bool false)], args := [d1, d2, d3] }
  | _ => none }
def CapsBackWrongFalsely : Prop := capsBackRow.holds Try.pinned (OpenSpec.ofChange capsBackWrong)

/- THE SECOND FORM. 'bulk': how many values and letters a reading holds, each counted each time it is reached (what is shared counts as often as it is met; a slice's spare places count too). A statement '..UptoSaid' is the law's where the arguments, and the package variables that the reading takes, are together of bulk at most 1048576: NARROWER than '..Said'. Prove '..Said' where nothing that the law and all that it calls make is longer than what came in: it says more and counts as full. Else prove '..UptoSaid'. A law counts once. -/
mutual
def uptoBulk {H : Type} : DataW H → Nat
  | .lit (.string bytes) => bytes.length + 1
  | .lit _ => 1
  | .nil => 1
  | .ptr d => uptoBulk d + 1
  | .slice elems spare => uptoBulkAll elems + uptoBulkAll spare + 1
  | .agg parts => uptoBulkAll parts + 1
  | .iface _ d => uptoBulk d + 1
  | .map entries => uptoBulkEntries entries + 1
  | .held _ => 1
def uptoBulkAll {H : Type} : List (DataW H) → Nat
  | [] => 0
  | d :: r => uptoBulk d + uptoBulkAll r
def uptoBulkEntries {H : Type} : List (Lit × DataW H) → Nat
  | [] => 0
  | x :: r => uptoBulkEntry x + uptoBulkEntries r
def uptoBulkEntry {H : Type} : Lit × DataW H → Nat
  | (.string bytes, d) => bytes.length + uptoBulk d + 1
  | (_, d) => uptoBulk d + 1
 end
def uptoSmall : (H : Type) → List (DataW H) → Bool := fun _ ds => decide (uptoBulkAll ds ≤ 1048576)
def OpenSpec.upto (s : _root_.Go.ChangeSpec) : _root_.Go.OpenSpec := { _root_.Go.OpenSpec.ofChange s with cond := some uptoSmall }

/-- 'pointsmanlaw2.SubnetMasks', WHERE WHAT IT READS IS OF BULK AT MOST 1048576: true; the input reads as it did. -/
def subnetMasksUptoRow : OpenClaim := { program := "ytgfplkhcihcagab", sum := "52f1cd3e2cab03ca54c4b35aef56ba78a334b697f96da801b128c39825dc98b9", func := "pointsman/pointsmanlaw2.SubnetMasks", spec := "subnetMasks", apart := false, narrowed := true }
def SubnetMasksUptoSaid : Prop := subnetMasksUptoRow.holds Try.pinned (OpenSpec.upto subnetMasksSpec)

/-- 'pointsmanlaw2.SubnetNests', WHERE WHAT IT READS IS OF BULK AT MOST 1048576: true; the input reads as it did. -/
def subnetNestsUptoRow : OpenClaim := { program := "ytgfplkhcihcagab", sum := "52f1cd3e2cab03ca54c4b35aef56ba78a334b697f96da801b128c39825dc98b9", func := "pointsman/pointsmanlaw2.SubnetNests", spec := "subnetNests", apart := false, narrowed := true }
def SubnetNestsUptoSaid : Prop := subnetNestsUptoRow.holds Try.pinned (OpenSpec.upto subnetNestsSpec)

/-- 'pointsmantop.TopSubnet', WHERE WHAT IT READS IS OF BULK AT MOST 1048576: true; the input reads as it did. -/
def topSubnetUptoRow : OpenClaim := { program := "ytgfplkhcihcagab", sum := "52f1cd3e2cab03ca54c4b35aef56ba78a334b697f96da801b128c39825dc98b9", func := "pointsman/pointsmantop.TopSubnet", spec := "topSubnet", unfollowed := true, recurses := true, apart := false, narrowed := true }
def TopSubnetUptoSaid : Prop := topSubnetUptoRow.holds Try.pinned (OpenSpec.upto topSubnetSpec)

/-- 'pointsmanlaw2.CapsBack', WHERE WHAT IT READS IS OF BULK AT MOST 1048576: true; the input reads as it did. -/
def capsBackUptoRow : OpenClaim := { program := "ytgfplkhcihcagab", sum := "52f1cd3e2cab03ca54c4b35aef56ba78a334b697f96da801b128c39825dc98b9", func := "pointsman/pointsmanlaw2.CapsBack", spec := "capsBack", unfollowed := true, recurses := true, apart := false, narrowed := true }
def CapsBackUptoSaid : Prop := capsBackUptoRow.holds Try.pinned (OpenSpec.upto capsBackSpec)

end Rows
end Go.Proofs.Ytgfplkhcihcagab
