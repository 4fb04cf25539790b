/-
  How a list of labels among the arguments is opened: what the row's own bound on sizes says of it, and that it leads to its labels.
-/
import Derived.Test.YtlmhcjkkdgdbjaaDoorWalkA
import Derived.ProofKit
import Derived.OpenShut
import Derived.ShutString
import Derived.ChangeOld
import Derived.Below
import Derived.SizedLaws
import Derived.Deep.Strs
namespace Go.Proofs.YtlmhcjkkdgdbjaaDoor
open Go.ChangeShapes Go.WideShapes Go.ChangeAt Go.RowKit Go.Deep

theorem own : ownKnob Tryd.prog.godebug = none := by kernel_rfl
theorem laidOut : laidOutB Tryd.prog = true := by kernel_rfl
theorem cells_string : Tryd.prog.cellsOf 9 = 1 := by kernel_rfl
theorem bytes_string : Tryd.prog.bytesOf 9 = 16 := by kernel_rfl

theorem lt_of_cell {w : World} {a : Addr} {v : Value} (h : w.cell? a = some v) : a.block < w.heap.size := by
  rcases Nat.lt_or_ge a.block w.heap.size with k | k
  · exact k
  · rw [World.cell?, Array.getElem?_eq_none k] at h; simp at h

theorem weights_of {H : Type} {P : Program} {e : TypeId} (L : List (DataW H)) (i : Nat) (b : List UInt8) (hi : L[i]? = some (.lit (.string b))) : b.length ∈ DataW.weightsAll P e L := by
  induction L generalizing i with
  | nil => simp at hi
  | cons d l ih =>
    simp only [DataW.weightsAll, List.mem_append]
    cases i with
    | zero => simp only [List.getElem?_cons_zero, Option.some.injEq] at hi; subst hi; left; simp [DataW.weights]
    | succ j => right; exact ih j (by simpa using hi)

end Go.Proofs.YtlmhcjkkdgdbjaaDoor
