/-
  What the laws on buckets share.
-/
import Derived.Test.YtlmhcjkkdgdbjaaDoorBkT
namespace Go.Proofs.YtlmhcjkkdgdbjaaDoor.Bu
open Go.RowKit Go.Deep

theorem own4 (u : World) (f : Bk) :
    Bl 23 (u.alloc (.cells #[.int .i64 f.rate, .int .i64 f.burst, .int .i64 f.has, .int .i64 f.at'] 23)) u.heap.size #[.int .i64 f.rate, .int .i64 f.burst, .int .i64 f.has, .int .i64 f.at'] ∧
    Below u.heap.size u (u.alloc (.cells #[.int .i64 f.rate, .int .i64 f.burst, .int .i64 f.has, .int .i64 f.at'] 23)) :=
  ⟨Bl.new 23 u _, (Below.refl _ u).alloc (Nat.le_refl _) _⟩

end Go.Proofs.YtlmhcjkkdgdbjaaDoor.Bu
