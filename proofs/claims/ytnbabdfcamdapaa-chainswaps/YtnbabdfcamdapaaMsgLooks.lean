/-
  The walk of look itself.
-/
import Derived.Test.YtnbabdfcamdapaaMsgLook
namespace Go.Proofs.Ytnbabdfcamdapaa
open Go.RowKit Go.Deep

def LookPost (s : List Int × Nat × Int) (w : World) (e : Ending) (w' : World) : Prop :=
  ∃ v, e = .returned (.tuple #[v, .int .i64 (s.2.1 : Int), .int .i64 s.2.2]) ∧ Rowi w' w.heap.size v s.1 ∧ Below w.heap.size w w'

def LookRel (ms : List Int) (n : List ByteArray) (starts : List Int) (w : World) (vt vc vo vi : Value) (wr : World) : Prop :=
  ∃ (k : Nat) (s : List Int × Nat × Int), k ≤ starts.length ∧ lookN ms n (starts.take k) = s ∧ vi = .int .i64 (k : Int) ∧ vc = .int .i64 (s.2.1 : Int) ∧ vo = .int .i64 s.2.2 ∧ Rowi wr w.heap.size vt s.1 ∧ Below w.heap.size w wr

end Go.Proofs.Ytnbabdfcamdapaa
