/-
  The walks of foldLabel and Fold: each makes its answer in new memory, and writes nothing that was there.
-/
import Derived.Test.YtbgnbimknnpefaaTexts
import Derived.Deep.OwnRows
import Derived.Laws.BytesArg
namespace Go.Proofs.Ytbgnbimknnpefaa
open Go.RowKit Go.Deep

/-- A label with small letters. -/
def fS (s : ByteArray) : ByteArray := strOfNums ((Nm.bs s).map Nm.foI)

theorem info_byte : (Try.prog.info? 5).map (fun i => (i.zero, i.size, i.bytes)) = some (some (.int .u8 0), 1, 1) := by kernel_rfl
theorem info_string : (Try.prog.info? 9).map (fun i => (i.zero, i.size, i.bytes)) = some (some (.string ByteArray.empty), 1, 16) := by kernel_rfl

theorem fold_step {a : ByteArray} {k : Nat} {f : Nat → Value} (h : k < a.size) (hf : ∀ j, j < k → f j = .int .u8 (((Nm.bs a).map Nm.foI).getD j 0)) :
    ∀ j, j < k + 1 → (if j = k then Value.int .u8 (Nm.foI (a[k].toNat : Int)) else f j) = .int .u8 (((Nm.bs a).map Nm.foI).getD j 0) := by
  intro j hj
  by_cases e : j = k
  · subst e
    rw [if_pos rfl, List.getD_eq_getElem?_getD, List.getElem?_map, List.getElem?_eq_getElem (by rw [bs_length]; exact h), bs_get a j h]
    rfl
  · rw [if_neg e]; exact hf j (by omega)

theorem fS_size (s : ByteArray) : (fS s).size = s.size := by
  unfold fS; rw [strOfNums_size, List.length_map, bs_length]

theorem names_step {n : List ByteArray} {k : Nat} {f : Nat → Value} (hf : ∀ j, j < k → f j = .string (fS (n.getD j ByteArray.empty))) :
    ∀ j, j < k + 1 → (if j = k then Value.string (fS (n.getD k ByteArray.empty)) else f j) = .string (fS (n.getD j ByteArray.empty)) := by
  intro j hj
  by_cases e : j = k
  · subst e; rw [if_pos rfl]
  · rw [if_neg e]; exact hf j (by omega)

theorem names_done {wr : World} {n : List ByteArray} {f : Nat → Value} {c : Nat} (hl : n.length ≤ 8796093022208) (hs : ∀ s ∈ n, s.size ≤ 140737488355328) (hrow : wr.rowIs c 9 n.length f) (hf : ∀ j, j < n.length → f j = .string (fS (n.getD j ByteArray.empty))) :
    Strs wr (some ⟨c, 0, none⟩) n.length (n.map fS) := by
  refine ⟨by simp, by simpa using hl, fun s h => ?_, Or.inr ⟨c, 0, rfl, hrow.lt, fun i hi => ?_⟩⟩
  · obtain ⟨t, ht, rfl⟩ := List.mem_map.1 h
    rw [fS_size]; exact hs t ht
  · rw [List.length_map] at hi
    rw [Nat.zero_add, hrow.cell hi, hf i hi]
    simp [List.getD_eq_getElem?_getD, List.getElem?_map, List.getElem?_eq_getElem hi]

end Go.Proofs.Ytbgnbimknnpefaa
