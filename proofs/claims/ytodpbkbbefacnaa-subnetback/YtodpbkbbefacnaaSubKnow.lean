/-
  The walk of the statements' own small check of Mask.
-/
import Derived.Test.YtodpbkbbefacnaaSubIn
namespace Go.Proofs.Ytodpbkbbefacnaa
open Go.RowKit Go.Deep

theorem fact_masked : maskN 9 [255, 255] = [255, 128] := by decide

set_option maxHeartbeats 1000000 in
set_option maxRecDepth 100000 in
theorem smasked_ok (w : World) : Calls Try.prog 13 #[] w fun e w' => e = .returned (.bool true) ∧ Below w.heap.size w w' := by
  go_enter Try.func13, Try.ntmps13
  go_wp2_with fail
  refine (mask_good 9 [255, 255] _ (bys_new w [255, 255] (by decide) (by decide)) (fun q => by cases q) (by decide) (by decide) rfl).mono ?_
  rintro e w1 ⟨g, rfl, k1, d1⟩
  have e9 : maskN (Int.toNat 9) [255, 255] = [255, 128] := fact_masked
  rw [e9] at k1
  have B1 := hid (grown_on ((Below.refl _ w).alloc (Nat.le_refl _) _) d1)
  have K1 := hid k1
  clear d1 k1 e9
  go_wp2_with fail
  refine (bytes_at true _ _ _ (K1.out.below ((Below.refl _ _).alloc (Nat.le_refl _) _)) (bys_new w1 [255, 128] (by decide) (by decide)) rfl rfl rfl).mono ?_
  rintro e w2 ⟨rfl, d2⟩
  have B2 := hid (grown_on (B1.out.alloc B1.out.size _) d2)
  clear d2
  go_wp2_with fail
  go_ret
  exact ⟨rfl, B2.out⟩

end Go.Proofs.Ytodpbkbbefacnaa
