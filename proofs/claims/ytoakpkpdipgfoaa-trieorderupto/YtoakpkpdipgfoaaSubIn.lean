/-
  The walks of package subnet: fit, check, Mask, In.
-/
import Derived.Test.YtoakpkpdipgfoaaSubW
import Derived.Deep.RegionHeld3
namespace Go.Proofs.Ytoakpkpdipgfoaa
open Go.RowKit Go.Deep

theorem MaskP.bys {n : Nat} {xs : List Int} {w w' : World} (hb : Bl 5 w' w.heap.size ((maskN n xs).map (Value.int .u8)).toArray) (hbs : ∀ x ∈ xs, 0 ≤ x ∧ x ≤ 255) (hl : xs.length ≤ 200000000000000) : Bys w' (some ⟨w.heap.size, 0, none⟩) xs.length (maskN n xs) := by
  refine ⟨by rw [maskN_len]; exact Nat.le_refl _, by rw [maskN_len]; exact hl, maskN_bytes n hbs, Or.inr ⟨w.heap.size, 0, rfl, hb.lt, fun i hi => ?_⟩⟩
  rw [Nat.zero_add]
  refine hb.cell ?_
  simp [List.getD_eq_getElem?_getD, List.getElem?_eq_getElem hi]

theorem wide_small (f : Int) : wideN f ≤ 16 := by unfold wideN; split <;> (try split) <;> omega

end Go.Proofs.Ytoakpkpdipgfoaa
