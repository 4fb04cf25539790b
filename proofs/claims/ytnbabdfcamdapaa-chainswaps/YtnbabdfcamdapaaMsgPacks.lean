/-
  The walk of Pack itself.
-/
import Derived.Test.YtnbabdfcamdapaaMsgPack
namespace Go.Proofs.Ytnbabdfcamdapaa
open Go.RowKit Go.Deep

def PackRel (ms : List Int) (n : List ByteArray) (T : List Int) (k : Nat) (w : World) (vt vs vi : Value) (wr : World) : Prop :=
  ∃ i : Nat, i ≤ k ∧ vi = .int .i64 (i : Int) ∧ Rowi wr w.heap.size vt (T ++ placesN ms.length (n.map Nm.bs) i) ∧ Rowb wr w.heap.size vs (ms ++ Nm.sentL ((n.map Nm.bs).take i)) ∧ Below w.heap.size w wr

theorem rowb_len {w : World} {B : Nat} {v : Value} {xs : List Int} {N : Nat} (h : Rowb w B v xs) (hN : xs.length = N) : ∃ x c, v = .slice x N c := by
  subst hN
  rcases h.2 with ⟨rfl, h4⟩ | ⟨g, cap, cur, rfl, _⟩
  · exact ⟨none, 0, by rw [h4]⟩
  · exact ⟨_, cap, rfl⟩

end Go.Proofs.Ytnbabdfcamdapaa
