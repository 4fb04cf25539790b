/-
  The walks of what compares labels and names: foldByte, cmp.Compare at bytes and at ints, compareLabels, Compare, Same, Under. Each only reads: it hands back the number that the plain functions of the text Order tell, and of the world nothing has turned but draws.
-/
import Derived.Test.YtbngafofmgcngaaDoorRows
import Derived.Test.YtbngafofmgcngaaDoorOrder
import Derived.WalkKit
import Derived.WalkSpells
import Derived.WalkLawsBesides
import Derived.Deep.QuietTactic
import Derived.BigQuiet
import Derived.Deep.RegionWith
namespace Go.Proofs.YtbngafofmgcngaaDoor
open Go.RowKit

/-- Nothing but draws. -/
def Drawn (w w' : World) : Prop := ∃ n, w' = w.drewN n
theorem Drawn.refl (w : World) : Drawn w w := ⟨0, rfl⟩
theorem Drawn.more {w w' : World} (h : Drawn w w') (n : Nat) : Drawn w (w'.drewN n) := by
  obtain ⟨m, rfl⟩ := h; exact ⟨m + n, by rw [World.drewN_drewN]⟩
theorem Drawn.trans {w w' w'' : World} (h : Drawn w w') (k : Drawn w' w'') : Drawn w w'' := by
  obtain ⟨m, rfl⟩ := k; exact h.more m
theorem Drawn.below {w w' : World} (h : Drawn w w') (B : Nat) : Below B w w' := by
  obtain ⟨m, rfl⟩ := h; exact below_drewN (Below.refl B w) m
theorem Drawn.cell {w w' : World} (h : Drawn w w') (a : Addr) : w'.cell? a = w.cell? a := by
  obtain ⟨m, rfl⟩ := h; rfl
theorem Drawn.heap {w w' : World} (h : Drawn w w') : w'.heap = w.heap := by
  obtain ⟨m, rfl⟩ := h; rfl

theorem ret_int {k : IntKind} {a b : Int} (h : a = b) : Ending.returned (.int k a) = .returned (.int k b) := by rw [h]
theorem ret_bool {a b : Bool} (h : a = b) : Ending.returned (.bool a) = .returned (.bool b) := by rw [h]

set_option maxHeartbeats 400000 in
theorem foldByte_any (n : Int) (w : World) (h0 : 0 ≤ n) (h1 : n ≤ 255) :
    Calls Tryd.prog 31 #[.int .u8 n] w fun e w' => e = .returned (.int .u8 (Nm.foI n)) ∧ w' = w := by
  by_cases a : 65 ≤ n
  · by_cases b : n ≤ 90
    · have e : Nm.foI n = n - 65 + 97 := by unfold Nm.foI; rw [if_pos ⟨a, b⟩]; omega
      rw [e]
      clear e
      go_enter Tryd.func31, Tryd.ntmps31
      go_wp2
      go_ret
      exact ⟨ret_int (by omega), rfl⟩
    · have e : Nm.foI n = n := by unfold Nm.foI; rw [if_neg (by omega)]
      rw [e]
      clear e
      go_enter Tryd.func31, Tryd.ntmps31
      go_wp2
      go_ret
      exact ⟨rfl, rfl⟩
  · have e : Nm.foI n = n := by unfold Nm.foI; rw [if_neg (by omega)]
    rw [e]
    clear e
    go_enter Tryd.func31, Tryd.ntmps31
    go_wp2
    go_ret
    exact ⟨rfl, rfl⟩

set_option maxHeartbeats 400000 in
theorem cmpInt_any (x y : Int) (w : World) :
    Calls Tryd.prog 26 #[.int .i64 x, .int .i64 y] w fun e w' => e = .returned (.int .i64 (Nm.cmpI x y)) ∧ w' = w := by
  by_cases a : x < y
  · have e : Nm.cmpI x y = -1 := by unfold Nm.cmpI; rw [if_pos a]
    rw [e]
    clear e
    go_enter Tryd.func26, Tryd.ntmps26
    go_wp2
    go_ret
    exact ⟨rfl, rfl⟩
  · by_cases b : y < x
    · have e : Nm.cmpI x y = 1 := by unfold Nm.cmpI; rw [if_neg a, if_pos b]
      rw [e]
      clear e
      go_enter Tryd.func26, Tryd.ntmps26
      go_wp2
      go_ret
      exact ⟨rfl, rfl⟩
    · have e : Nm.cmpI x y = 0 := by unfold Nm.cmpI; rw [if_neg a, if_neg b]
      rw [e]
      clear e
      go_enter Tryd.func26, Tryd.ntmps26
      go_wp2
      go_ret
      exact ⟨rfl, rfl⟩

set_option maxHeartbeats 400000 in
theorem cmpByte_any (x y : Int) (w : World) :
    Calls Tryd.prog 32 #[.int .u8 x, .int .u8 y] w fun e w' => e = .returned (.int .i64 (Nm.cmpI x y)) ∧ w' = w := by
  by_cases a : x < y
  · have e : Nm.cmpI x y = -1 := by unfold Nm.cmpI; rw [if_pos a]
    rw [e]
    clear e
    go_enter Tryd.func32, Tryd.ntmps32
    go_wp2
    go_ret
    exact ⟨rfl, rfl⟩
  · by_cases b : y < x
    · have e : Nm.cmpI x y = 1 := by unfold Nm.cmpI; rw [if_neg a, if_pos b]
      rw [e]
      clear e
      go_enter Tryd.func32, Tryd.ntmps32
      go_wp2
      go_ret
      exact ⟨rfl, rfl⟩
    · have e : Nm.cmpI x y = 0 := by unfold Nm.cmpI; rw [if_neg a, if_neg b]
      rw [e]
      clear e
      go_enter Tryd.func32, Tryd.ntmps32
      go_wp2
      go_ret
      exact ⟨rfl, rfl⟩

end Go.Proofs.YtbngafofmgcngaaDoor
