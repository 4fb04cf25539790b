/-
  A law of my own: a region that draws its order, each of whose operations yields one value in every world that keeps an older one, and leaves such a world: one walk of the text's order serves.
-/
import Derived.Test.YtgfplkhcihcagaaDoorMsgAt
import Derived.Deep.QuietTactic
import Derived.BigQuiet
namespace Go.Proofs.YtgfplkhcihcagaaDoor
open Go.RowKit Go.Deep

/-- A world that keeps an older one. -/
structure Cl (w : World) where
  val : World
  hb : Below w.heap.size w val

instance (w : World) : Nonempty (Cl w) := ⟨⟨w, Below.refl _ _⟩⟩

theorem wp_region_class {id : Nat} {Q : Exit → Act → World → Prop} {a : Act} {w w0 : World} {l : List Oper} (hm : Tryd.prog.follows .mixedOrders = true) (hB : Region.lexB .any l.toArray = true) (hC : Below w0.heap.size w0 w)
    (h : wpQuiet Tryd.prog l.toArray (fun u => ∃ s : Cl w0, u = s.val) (fun a' => ∀ u, (∃ s : Cl w0, u = s.val) → Q .normal a' u) l a) : (Code.region id l.toArray true).wp Tryd.prog Q a w :=
  wp_region_quiet (C := fun u => ∃ s : Cl w0, u = s.val) hm hB ⟨⟨_, hC.drew⟩, rfl⟩ (by simpa using h)

/-- A callee's contract in a world of the class. -/
theorem Calls.cl {f : FuncId} {args : Array Value} {w0 : World} {s : Cl w0} {v : Value} (h : Calls Tryd.prog f args s.val fun e w' => e = .returned v ∧ Below s.val.heap.size s.val w') :
    Calls Tryd.prog f args s.val fun e w'' => e = .returned v ∧ ∃ s' : Cl w0, w'' = s'.val :=
  h.mono fun _ w' ⟨he, hb⟩ => ⟨he, ⟨w', s.hb.trans (hb.mono s.hb.size)⟩, rfl⟩

end Go.Proofs.YtgfplkhcihcagaaDoor
