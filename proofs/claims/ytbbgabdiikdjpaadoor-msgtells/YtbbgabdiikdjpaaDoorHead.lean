/-
  The walks of package head's small functions: fits, and flags (where the flags of a header stand).
-/
import Derived.Test.YtbbgabdiikdjpaaDoorMsgAt
import Derived.BigRegion
namespace Go.Proofs.YtbbgabdiikdjpaaDoor
open Go.RowKit Go.Deep

theorem fits_at (b : Bool) (n m : Int) (w : World) (h : decide (0 ≤ n ∧ n ≤ m) = b) :
    Calls Tryd.prog 67 #[.int .i64 n, .int .i64 m] w fun e w' => e = .returned (.bool b) ∧ w' = w := by
  subst h
  by_cases c1 : 0 ≤ n
  · by_cases c2 : n ≤ m
    · rw [decide_eq_true (by exact ⟨c1, c2⟩)]
      go_enter Tryd.func67, Tryd.ntmps67
      go_wp2
      go_ret
      exact ⟨rfl, rfl⟩
    · rw [decide_eq_false (by omega)]
      go_enter Tryd.func67, Tryd.ntmps67
      go_wp2
      go_ret
      exact ⟨rfl, rfl⟩
  · rw [decide_eq_false (by omega)]
    go_enter Tryd.func67, Tryd.ntmps67
    go_wp2
    go_ret
    exact ⟨rfl, rfl⟩

/-- Where the flags of the header in a block stand. -/
def flagsV (b : Nat) : Value := .agg #[.pointer none, .pointer none, .pointer none, .pointer none, .pointer (some ⟨b, 9, none⟩), .pointer (some ⟨b, 8, none⟩), .pointer (some ⟨b, 7, none⟩), .pointer (some ⟨b, 6, none⟩), .pointer (some ⟨b, 5, none⟩), .pointer (some ⟨b, 4, none⟩), .pointer (some ⟨b, 3, none⟩), .pointer none, .pointer none, .pointer none, .pointer none, .pointer (some ⟨b, 1, none⟩)]

set_option maxHeartbeats 1000000 in
set_option maxRecDepth 100000 in
theorem flags_any (b : Nat) (w : World) :
    Calls Tryd.prog 54 #[.pointer (some ⟨b, 0, none⟩)] w fun e w' => e = .returned (flagsV b) ∧ Below w.heap.size w w' := by
  go_enter Tryd.func54, Tryd.ntmps54
  go_wp2
  go_big_region
  go_wp2
  refine bodyPost_ret (v := flagsV b) (by simp [results, Tryd.results54, go_sem, flagsV]) rfl ?_
  exact ⟨rfl, ((Below.refl _ w).alloc (Nat.le_refl _) _).drew⟩

end Go.Proofs.YtbbgabdiikdjpaaDoor
