/-
  What the laws on buckets share.
-/
import Derived.Test.YtlmhcjkkdgdbjaaBkT
namespace Go.Proofs.Ytlmhcjkkdgdbjaa.Bu
open Go.RowKit Go.Deep

theorem own4 (u : World) (f : Bk) :
    Bl 23 (u.alloc (.cells #[.int .i64 f.rate, .int .i64 f.burst, .int .i64 f.has, .int .i64 f.at'] 23)) u.heap.size #[.int .i64 f.rate, .int .i64 f.burst, .int .i64 f.has, .int .i64 f.at'] ∧
    Below u.heap.size u (u.alloc (.cells #[.int .i64 f.rate, .int .i64 f.burst, .int .i64 f.has, .int .i64 f.at'] 23)) :=
  ⟨Bl.new 23 u _, (Below.refl _ u).alloc (Nat.le_refl _) _⟩

set_option maxHeartbeats 1000000 in
set_option maxRecDepth 100000 in
theorem filled_any (w : World) : Calls Try.prog 6 #[] w fun e w' => e = .returned (.bool true) ∧ Below w.heap.size w w' := by
  have hr : fillR ⟨2, 9, 0, 0⟩ 3 = ⟨2, 9, 6, 3⟩ := by unfold fillR; rw [if_pos (by decide)]; rfl
  have hv : errV (fillE ⟨2, 9, 0, 0⟩ 3) = .nilIface := by unfold fillE; rw [if_pos (by decide)]; rfl
  have HF := hid (bfill_any ⟨2, 9, 0, 0⟩ 3 ⟨2, 9, 6, 3⟩ .nilIface w (by unfold wd; omega) hr hv)
  clear hr hv
  go_enter Try.func6, Try.ntmps6
  go_wp2_with fail
  refine HF.out.mono ?_
  rintro e w2 ⟨rfl, q⟩
  have b2 := hid (q.trans ((own4 w2 ⟨2, 9, 6, 3⟩).2.mono q.size))
  have k2 := (own4 w2 ⟨2, 9, 6, 3⟩).1.cell (i := 2) rfl
  clear q
  go_wp2_with fail
  go_ret
  exact ⟨rfl, b2.out⟩

end Go.Proofs.Ytlmhcjkkdgdbjaa.Bu
