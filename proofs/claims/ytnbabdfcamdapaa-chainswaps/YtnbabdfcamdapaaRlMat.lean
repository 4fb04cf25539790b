/-
  The walk of the laws' own matches at two rules that are the same.
-/
import Derived.Test.YtnbabdfcamdapaaRlTk
import Derived.Test.YtnbabdfcamdapaaMsgBytes
import Derived.BigQuiet
namespace Go.Proofs.Ytnbabdfcamdapaa.Ru
open Go.RowKit Go.Deep

theorem Mats.all {w : World} {x : Option Addr} {c : Nat} {ms : List Mt} (h : Mats w x c ms) (hp : 0 < ms.length) : ∃ b off, x = some ⟨b, off, none⟩ ∧ b < w.heap.size ∧ ∀ i (hi : i < ms.length), MCell w b (off + i * 4) ms[i] := by
  rcases h.2.2.2 with q | q
  · rw [q] at hp; simp at hp
  · exact q

end Go.Proofs.Ytnbabdfcamdapaa.Ru
