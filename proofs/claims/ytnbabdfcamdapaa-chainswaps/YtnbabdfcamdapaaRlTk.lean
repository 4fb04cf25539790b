/-
  The walk of the document's own Takes: how many rules a node takes.
-/
import Derived.Test.YtnbabdfcamdapaaRlMem
namespace Go.Proofs.Ytnbabdfcamdapaa.Ru
open Go.RowKit Go.Deep

end Go.Proofs.Ytnbabdfcamdapaa.Ru
