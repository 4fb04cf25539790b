/-
  How a list of labels among the arguments is opened: what the row's own bound on sizes says of it, and that it leads to its labels.
-/
import Derived.Test.YtnbabdfcamdapaaWalkA
import Derived.ProofKit
import Derived.OpenShut
import Derived.ShutString
import Derived.ChangeOld
import Derived.Below
import Derived.SizedLaws
import Derived.Deep.Strs
namespace Go.Proofs.Ytnbabdfcamdapaa
open Go.ChangeShapes Go.WideShapes Go.ChangeAt Go.RowKit Go.Deep

theorem own : ownKnob Try.prog.godebug = none := by kernel_rfl
theorem laidOut : laidOutB Try.prog = true := by kernel_rfl
theorem cells_string : Try.prog.cellsOf 9 = 1 := by kernel_rfl
theorem bytes_string : Try.prog.bytesOf 9 = 16 := by kernel_rfl

theorem lt_of_cell {w : World} {a : Addr} {v : Value} (h : w.cell? a = some v) : a.block < w.heap.size := by
  rcases Nat.lt_or_ge a.block w.heap.size with k | k
  · exact k
  · rw [World.cell?, Array.getElem?_eq_none k] at h; simp at h

theorem weights_of {H : Type} {P : Program} {e : TypeId} (L : List (DataW H)) (i : Nat) (b : List UInt8) (hi : L[i]? = some (.lit (.string b))) : b.length ∈ DataW.weightsAll P e L := by
  induction L generalizing i with
  | nil => simp at hi
  | cons d l ih =>
    simp only [DataW.weightsAll, List.mem_append]
    cases i with
    | zero => simp only [List.getElem?_cons_zero, Option.some.injEq] at hi; subst hi; left; simp [DataW.weights]
    | succ j => right; exact ih j (by simpa using hi)

theorem strs_of {H : Type} {enc : TypeId × Value → H} {W : World} {x : Option Addr} {len cap fuel : Nat} {d : DataW H} {p : List MemPlace}
    (hf : DataW.trod enc Try.prog W 0 (fun _ => true) true fuel 26 [Value.slice x len cap] = some (d, p)) (hz : ∀ n ∈ d.weights Try.prog 26, n ≤ reachBytes) :
    ∃ ss : List ByteArray, ss.length = len ∧ Strs W x cap ss := by
  rcases open_strs Try.underlying26 Try.underlying9 cells_string hf with ⟨hcs, _⟩ | ⟨a, l, c, m, Sx, hcs, _, hl, hm, hmm, hx, hcell⟩
  · simp only [List.cons.injEq, Value.slice.injEq, and_true] at hcs
    obtain ⟨rfl, rfl, rfl⟩ := hcs
    exact ⟨[], rfl, Strs.empty W⟩
  · simp only [List.cons.injEq, Value.slice.injEq, and_true] at hcs
    obtain ⟨rfl, rfl, rfl⟩ := hcs
    have hmc : m = cap := by simpa using hmm
    subst hmc
    have hr := reachBytes_lt
    simp only [Prod.mk.injEq] at hx
    obtain ⟨rfl, _⟩ := hx
    have hw : (len + (m - len)) * 16 ≤ reachBytes := by
      refine hz _ ?_
      simp only [DataW.weights, Try.underlying26, List.length_map, List.length_range, bytes_string]
      exact List.mem_cons_self
    have hS : ∀ i, i < len → (Sx i).size ≤ 140737488355328 := by
      intro i hi
      have : (Sx i).data.toList.length ≤ reachBytes := by
        refine hz _ ?_
        simp only [DataW.weights, Try.underlying26]
        refine List.mem_cons_of_mem _ (List.mem_append_left _ (weights_of _ i _ ?_))
        rw [List.getElem?_map, List.getElem?_range hi]; rfl
      have e : (Sx i).data.toList.length = (Sx i).size := by simp
      omega
    refine ⟨(List.range len).map Sx, by simp, by simpa using hl, by simp; omega, ?_, ?_⟩
    · intro s hs
      obtain ⟨i, hi, rfl⟩ := List.mem_map.1 hs
      exact hS i (List.mem_range.1 hi)
    · rcases Nat.eq_zero_or_pos len with h0 | h0
      · left; subst h0; rfl
      · right
        obtain ⟨b, off, spot⟩ := a
        have h1 := (hcell 0 (by omega)).1
        have hspot : spot = none := by simpa [Addr.add] using World.cell?_spot h1
        subst hspot
        refine ⟨b, off, rfl, ?_, fun i hi => ?_⟩
        · simpa [Addr.add] using lt_of_cell h1
        · rw [List.length_map, List.length_range] at hi
          have := (hcell i (by omega)).1
          rw [List.getD_eq_getElem?_getD, List.getElem?_map, List.getElem?_range hi]
          rw [add_plain] at this
          exact this

end Go.Proofs.Ytnbabdfcamdapaa
