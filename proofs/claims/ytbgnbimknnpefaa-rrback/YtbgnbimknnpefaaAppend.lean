/-
  The walk of appendByte: a row of bytes that the caller owns is longer by what a byte of a label is in a text; nothing else has turned.
-/
import Derived.Test.YtbgnbimknnpefaaCheck
import Derived.Test.YtbgnbimknnpefaaFold
import Derived.Deep.Slices
namespace Go.Proofs.Ytbgnbimknnpefaa
open Go.RowKit Go.Deep

/-- A slice of bytes of the call's own. -/
def Rowb (w : World) (B : Nat) (v : Value) (xs : List Int) : Prop := w.ownsRow B 5 1 v xs.length (xs.map (Value.int .u8))

theorem Rowb.of {w : World} {B n : Nat} {v : Value} {xs : List Int} {ys : List Value} (h : w.ownsRow B 5 1 v n ys) (hn : n = xs.length) (hy : ys = xs.map (Value.int .u8)) : Rowb w B v xs := by
  subst hn hy; exact h

theorem cells_new (w : World) (cs : List Value) (t : TypeId) : ∀ j u, cs[j]? = some u → (w.alloc (.cells cs.toArray t)).cell? ((⟨w.heap.size, 0, none⟩ : Addr).add j) = some u := by
  intro j u h
  rw [Go.WideShapes.add_plain, Nat.zero_add, World.cell?_alloc_at _ _ _ _ rfl]
  simpa using h

theorem grown_alloc {w w' : World} {o : Obj} {r : Option Nat} (h : (w.alloc o).grownBy w' r) : w.grownBy w' r :=
  ⟨h.os, h.tape, h.output, by have := h.size; simp at this; omega, fun k hk hr => by rw [h.block k (by simp; omega) hr]; exact Below.heap_alloc w o k hk⟩

theorem one_cells (xs : List Int) : ∀ u ∈ xs.map (Value.int .u8), u.oneCell' = true := by
  intro u hu
  obtain ⟨n, _, rfl⟩ := List.mem_map.1 hu
  rfl

end Go.Proofs.Ytbgnbimknnpefaa
