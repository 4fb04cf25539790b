/-
  How a subnet among the arguments is opened.
-/
import Derived.Test.YtoakpkpdipgfoaaMsgInts
import Derived.Test.YtoakpkpdipgfoaaSub
namespace Go.Proofs.Ytoakpkpdipgfoaa
open Go.ChangeShapes Go.WideShapes Go.ChangeAt Go.RowKit Go.Deep

theorem list4 {α : Type} {l : List α} (h : l.length = 4) : ∃ a0 a1 a2 a3, l = [a0, a1, a2, a3] := by
  match l, h with
  | [a0, a1, a2, a3], _ => exact ⟨a0, a1, a2, a3, rfl⟩

theorem first_cell_ {a b : Value} {l : List Value} (h : l.take 1 = [b]) (hl : l.head? = some a) : a = b := by
  match l, h, hl with
  | x :: _, h, hl => simp at h hl; rw [← hl, h]

theorem slice_cell_ {H : Type} {enc : TypeId × Value → H} {W : World} {t e : TypeId} {fuel : Nat} {a : Value} {x : DataW H × List MemPlace} (ht : Try.prog.underlying t = some (.slice e)) (h : DataW.trod enc Try.prog W 0 (fun _ => true) true fuel t [a] = some x) : ∃ y n q, a = .slice y n q := by
  rcases DataW.trod_slice ht h with ⟨hc, _⟩ | ⟨ad, len, cap, _, _, _, _, hc, _⟩
  · simp at hc; exact ⟨_, _, _, hc⟩
  · simp at hc; exact ⟨_, _, _, hc⟩

end Go.Proofs.Ytoakpkpdipgfoaa
