/-
  The walks of package rule's small functions: arity, formed, checkNumber, check. Written by genrc.py.
-/
import Derived.Test.YtnbabdfcamdapaaRlTk
import Derived.Test.YtnbabdfcamdapaaWalkB
import Derived.Deep.Cut
namespace Go.Proofs.Ytnbabdfcamdapaa.Ru
open Go.RowKit Go.Deep

theorem boxed (t : TypeId) (w : World) (C : Array Value) : Below w.heap.size w (w.alloc (.cells C t)) := (Below.refl _ w).alloc (Nat.le_refl _) _

set_option maxRecDepth 100000 in
theorem arity_at {y z : Option Addr} {s t : Nat} (op n k : Int) (ln la : Nat) (w : World) (hk : ((takes op : Nat) : Int) = k) :
    Calls Try.prog 21 #[.agg #[.int .i64 op, .int .i64 n, .slice y ln s, .slice z la t]] w fun e w' => e = .returned (.int .i64 k) ∧ Below w.heap.size w w' := by
  subst hk
  unfold takes
  by_cases c1 : op = 8
  · subst c1
    go_enter Try.func21, Try.ntmps21
    go_wp2_with fail
    go_ret
    exact ⟨rfl, boxed _ _ _⟩
  · by_cases c2 : op = 9
    · subst c2
      go_enter Try.func21, Try.ntmps21
      go_wp2_with fail
      go_ret
      exact ⟨rfl, boxed _ _ _⟩
    · by_cases c3 : op = 10
      · subst c3
        go_enter Try.func21, Try.ntmps21
        go_wp2_with fail
        go_ret
        exact ⟨rfl, boxed _ _ _⟩
      · rw [if_neg c1, if_neg (by omega)]
        have d1 : (op == 8) = false := by simpa using c1
        have d2 : (op == 9) = false := by simpa using c2
        have d3 : (op == 10) = false := by simpa using c3
        clear c1 c2 c3
        go_enter Try.func21, Try.ntmps21
        go_wp2_with fail
        go_ret
        exact ⟨rfl, boxed _ _ _⟩

/-- Is a node formed: is its number a node's, and is empty what says nothing? -/
def formB (op n : Int) (ln la : Nat) : Bool :=
  decide (1 ≤ op ∧ op ≤ 10 ∧ (op = 3 ∨ op = 4 ∨ op = 5 ∨ op = 7 ∨ n = 0) ∧ (op = 2 ∨ ln = 0) ∧ (op = 7 ∨ la = 0))

theorem cast_zero {k : Nat} (h : ¬ k = 0) : (((k : Nat) : Int) == 0) = false := by simpa using h

set_option maxHeartbeats 1000000 in
set_option maxRecDepth 100000 in
theorem form_other {y z : Option Addr} {s t : Nat} (op n : Int) (ln la : Nat) (w : World) (_hn : ln ≤ 8796093022208) (_ha : la ≤ 200000000000000) (_h0 : (op == 2) = false) (_h1 : (op == 3) = false) (_h2 : (op == 4) = false) (_h3 : (op == 5) = false) (_h4 : (op == 7) = false) (_h5 : (op == 1) = false) (_h6 : (op == 6) = false) (_h7 : (op == 8) = false) (_h8 : (op == 9) = false) (_h9 : (op == 10) = false) :
    Calls Try.prog 18 #[.agg #[.int .i64 op, .int .i64 n, .slice y ln s, .slice z la t]] w fun e w' => e = .returned (.bool false) ∧ Below w.heap.size w w' := by
  go_enter Try.func18, Try.ntmps18
  go_wp2_with fail
  go_ret
  refine ⟨rfl, ?_⟩
  first
    | exact boxed _ _ _
    | exact (boxed _ _ _).setCell (Nat.le_refl _) _
    | exact ((boxed _ _ _).setCell (Nat.le_refl _) _).setCell (Nat.le_refl _) _

set_option maxHeartbeats 1000000 in
set_option maxRecDepth 100000 in
theorem form_1_n {y z : Option Addr} {s t : Nat} (op n : Int) (ln la : Nat) (w : World) (_hn : ln ≤ 8796093022208) (_ha : la ≤ 200000000000000) (_h0 : op = 1) (_h1 : (n == 0) = false) :
    Calls Try.prog 18 #[.agg #[.int .i64 op, .int .i64 n, .slice y ln s, .slice z la t]] w fun e w' => e = .returned (.bool false) ∧ Below w.heap.size w w' := by
  subst op
  go_enter Try.func18, Try.ntmps18
  go_wp2_with fail
  go_ret
  refine ⟨rfl, ?_⟩
  first
    | exact boxed _ _ _
    | exact (boxed _ _ _).setCell (Nat.le_refl _) _
    | exact ((boxed _ _ _).setCell (Nat.le_refl _) _).setCell (Nat.le_refl _) _

set_option maxHeartbeats 1000000 in
set_option maxRecDepth 100000 in
theorem form_1_l {y z : Option Addr} {s t : Nat} (op n : Int) (ln la : Nat) (w : World) (_hn : ln ≤ 8796093022208) (_ha : la ≤ 200000000000000) (_h0 : op = 1) (_h1 : n = 0) (_h2 : ((ln : Int) == 0) = false) :
    Calls Try.prog 18 #[.agg #[.int .i64 op, .int .i64 n, .slice y ln s, .slice z la t]] w fun e w' => e = .returned (.bool false) ∧ Below w.heap.size w w' := by
  subst op n
  go_enter Try.func18, Try.ntmps18
  go_wp2_with fail
  go_ret
  refine ⟨rfl, ?_⟩
  first
    | exact boxed _ _ _
    | exact (boxed _ _ _).setCell (Nat.le_refl _) _
    | exact ((boxed _ _ _).setCell (Nat.le_refl _) _).setCell (Nat.le_refl _) _

set_option maxHeartbeats 1000000 in
set_option maxRecDepth 100000 in
theorem form_1 {y z : Option Addr} {s t : Nat} (op n : Int) (ln la : Nat) (w : World) (_hn : ln ≤ 8796093022208) (_ha : la ≤ 200000000000000) (_h0 : op = 1) (_h1 : n = 0) (_h2 : ln = 0) :
    Calls Try.prog 18 #[.agg #[.int .i64 op, .int .i64 n, .slice y ln s, .slice z la t]] w fun e w' => e = .returned (.bool ((la : Int) == 0)) ∧ Below w.heap.size w w' := by
  subst op n ln
  go_enter Try.func18, Try.ntmps18
  go_wp2_with fail
  go_ret
  refine ⟨rfl, ?_⟩
  first
    | exact boxed _ _ _
    | exact (boxed _ _ _).setCell (Nat.le_refl _) _
    | exact ((boxed _ _ _).setCell (Nat.le_refl _) _).setCell (Nat.le_refl _) _

set_option maxHeartbeats 1000000 in
set_option maxRecDepth 100000 in
theorem form_6_n {y z : Option Addr} {s t : Nat} (op n : Int) (ln la : Nat) (w : World) (_hn : ln ≤ 8796093022208) (_ha : la ≤ 200000000000000) (_h0 : op = 6) (_h1 : (n == 0) = false) :
    Calls Try.prog 18 #[.agg #[.int .i64 op, .int .i64 n, .slice y ln s, .slice z la t]] w fun e w' => e = .returned (.bool false) ∧ Below w.heap.size w w' := by
  subst op
  go_enter Try.func18, Try.ntmps18
  go_wp2_with fail
  go_ret
  refine ⟨rfl, ?_⟩
  first
    | exact boxed _ _ _
    | exact (boxed _ _ _).setCell (Nat.le_refl _) _
    | exact ((boxed _ _ _).setCell (Nat.le_refl _) _).setCell (Nat.le_refl _) _

set_option maxHeartbeats 1000000 in
set_option maxRecDepth 100000 in
theorem form_6_l {y z : Option Addr} {s t : Nat} (op n : Int) (ln la : Nat) (w : World) (_hn : ln ≤ 8796093022208) (_ha : la ≤ 200000000000000) (_h0 : op = 6) (_h1 : n = 0) (_h2 : ((ln : Int) == 0) = false) :
    Calls Try.prog 18 #[.agg #[.int .i64 op, .int .i64 n, .slice y ln s, .slice z la t]] w fun e w' => e = .returned (.bool false) ∧ Below w.heap.size w w' := by
  subst op n
  go_enter Try.func18, Try.ntmps18
  go_wp2_with fail
  go_ret
  refine ⟨rfl, ?_⟩
  first
    | exact boxed _ _ _
    | exact (boxed _ _ _).setCell (Nat.le_refl _) _
    | exact ((boxed _ _ _).setCell (Nat.le_refl _) _).setCell (Nat.le_refl _) _

set_option maxHeartbeats 1000000 in
set_option maxRecDepth 100000 in
theorem form_6 {y z : Option Addr} {s t : Nat} (op n : Int) (ln la : Nat) (w : World) (_hn : ln ≤ 8796093022208) (_ha : la ≤ 200000000000000) (_h0 : op = 6) (_h1 : n = 0) (_h2 : ln = 0) :
    Calls Try.prog 18 #[.agg #[.int .i64 op, .int .i64 n, .slice y ln s, .slice z la t]] w fun e w' => e = .returned (.bool ((la : Int) == 0)) ∧ Below w.heap.size w w' := by
  subst op n ln
  go_enter Try.func18, Try.ntmps18
  go_wp2_with fail
  go_ret
  refine ⟨rfl, ?_⟩
  first
    | exact boxed _ _ _
    | exact (boxed _ _ _).setCell (Nat.le_refl _) _
    | exact ((boxed _ _ _).setCell (Nat.le_refl _) _).setCell (Nat.le_refl _) _

set_option maxHeartbeats 1000000 in
set_option maxRecDepth 100000 in
theorem form_8_n {y z : Option Addr} {s t : Nat} (op n : Int) (ln la : Nat) (w : World) (_hn : ln ≤ 8796093022208) (_ha : la ≤ 200000000000000) (_h0 : op = 8) (_h1 : (n == 0) = false) :
    Calls Try.prog 18 #[.agg #[.int .i64 op, .int .i64 n, .slice y ln s, .slice z la t]] w fun e w' => e = .returned (.bool false) ∧ Below w.heap.size w w' := by
  subst op
  go_enter Try.func18, Try.ntmps18
  go_wp2_with fail
  go_ret
  refine ⟨rfl, ?_⟩
  first
    | exact boxed _ _ _
    | exact (boxed _ _ _).setCell (Nat.le_refl _) _
    | exact ((boxed _ _ _).setCell (Nat.le_refl _) _).setCell (Nat.le_refl _) _

set_option maxHeartbeats 1000000 in
set_option maxRecDepth 100000 in
theorem form_8_l {y z : Option Addr} {s t : Nat} (op n : Int) (ln la : Nat) (w : World) (_hn : ln ≤ 8796093022208) (_ha : la ≤ 200000000000000) (_h0 : op = 8) (_h1 : n = 0) (_h2 : ((ln : Int) == 0) = false) :
    Calls Try.prog 18 #[.agg #[.int .i64 op, .int .i64 n, .slice y ln s, .slice z la t]] w fun e w' => e = .returned (.bool false) ∧ Below w.heap.size w w' := by
  subst op n
  go_enter Try.func18, Try.ntmps18
  go_wp2_with fail
  go_ret
  refine ⟨rfl, ?_⟩
  first
    | exact boxed _ _ _
    | exact (boxed _ _ _).setCell (Nat.le_refl _) _
    | exact ((boxed _ _ _).setCell (Nat.le_refl _) _).setCell (Nat.le_refl _) _

set_option maxHeartbeats 1000000 in
set_option maxRecDepth 100000 in
theorem form_8 {y z : Option Addr} {s t : Nat} (op n : Int) (ln la : Nat) (w : World) (_hn : ln ≤ 8796093022208) (_ha : la ≤ 200000000000000) (_h0 : op = 8) (_h1 : n = 0) (_h2 : ln = 0) :
    Calls Try.prog 18 #[.agg #[.int .i64 op, .int .i64 n, .slice y ln s, .slice z la t]] w fun e w' => e = .returned (.bool ((la : Int) == 0)) ∧ Below w.heap.size w w' := by
  subst op n ln
  go_enter Try.func18, Try.ntmps18
  go_wp2_with fail
  go_ret
  refine ⟨rfl, ?_⟩
  first
    | exact boxed _ _ _
    | exact (boxed _ _ _).setCell (Nat.le_refl _) _
    | exact ((boxed _ _ _).setCell (Nat.le_refl _) _).setCell (Nat.le_refl _) _

set_option maxHeartbeats 1000000 in
set_option maxRecDepth 100000 in
theorem form_9_n {y z : Option Addr} {s t : Nat} (op n : Int) (ln la : Nat) (w : World) (_hn : ln ≤ 8796093022208) (_ha : la ≤ 200000000000000) (_h0 : op = 9) (_h1 : (n == 0) = false) :
    Calls Try.prog 18 #[.agg #[.int .i64 op, .int .i64 n, .slice y ln s, .slice z la t]] w fun e w' => e = .returned (.bool false) ∧ Below w.heap.size w w' := by
  subst op
  go_enter Try.func18, Try.ntmps18
  go_wp2_with fail
  go_ret
  refine ⟨rfl, ?_⟩
  first
    | exact boxed _ _ _
    | exact (boxed _ _ _).setCell (Nat.le_refl _) _
    | exact ((boxed _ _ _).setCell (Nat.le_refl _) _).setCell (Nat.le_refl _) _

set_option maxHeartbeats 1000000 in
set_option maxRecDepth 100000 in
theorem form_9_l {y z : Option Addr} {s t : Nat} (op n : Int) (ln la : Nat) (w : World) (_hn : ln ≤ 8796093022208) (_ha : la ≤ 200000000000000) (_h0 : op = 9) (_h1 : n = 0) (_h2 : ((ln : Int) == 0) = false) :
    Calls Try.prog 18 #[.agg #[.int .i64 op, .int .i64 n, .slice y ln s, .slice z la t]] w fun e w' => e = .returned (.bool false) ∧ Below w.heap.size w w' := by
  subst op n
  go_enter Try.func18, Try.ntmps18
  go_wp2_with fail
  go_ret
  refine ⟨rfl, ?_⟩
  first
    | exact boxed _ _ _
    | exact (boxed _ _ _).setCell (Nat.le_refl _) _
    | exact ((boxed _ _ _).setCell (Nat.le_refl _) _).setCell (Nat.le_refl _) _

set_option maxHeartbeats 1000000 in
set_option maxRecDepth 100000 in
theorem form_9 {y z : Option Addr} {s t : Nat} (op n : Int) (ln la : Nat) (w : World) (_hn : ln ≤ 8796093022208) (_ha : la ≤ 200000000000000) (_h0 : op = 9) (_h1 : n = 0) (_h2 : ln = 0) :
    Calls Try.prog 18 #[.agg #[.int .i64 op, .int .i64 n, .slice y ln s, .slice z la t]] w fun e w' => e = .returned (.bool ((la : Int) == 0)) ∧ Below w.heap.size w w' := by
  subst op n ln
  go_enter Try.func18, Try.ntmps18
  go_wp2_with fail
  go_ret
  refine ⟨rfl, ?_⟩
  first
    | exact boxed _ _ _
    | exact (boxed _ _ _).setCell (Nat.le_refl _) _
    | exact ((boxed _ _ _).setCell (Nat.le_refl _) _).setCell (Nat.le_refl _) _

set_option maxHeartbeats 1000000 in
set_option maxRecDepth 100000 in
theorem form_10_n {y z : Option Addr} {s t : Nat} (op n : Int) (ln la : Nat) (w : World) (_hn : ln ≤ 8796093022208) (_ha : la ≤ 200000000000000) (_h0 : op = 10) (_h1 : (n == 0) = false) :
    Calls Try.prog 18 #[.agg #[.int .i64 op, .int .i64 n, .slice y ln s, .slice z la t]] w fun e w' => e = .returned (.bool false) ∧ Below w.heap.size w w' := by
  subst op
  go_enter Try.func18, Try.ntmps18
  go_wp2_with fail
  go_ret
  refine ⟨rfl, ?_⟩
  first
    | exact boxed _ _ _
    | exact (boxed _ _ _).setCell (Nat.le_refl _) _
    | exact ((boxed _ _ _).setCell (Nat.le_refl _) _).setCell (Nat.le_refl _) _

set_option maxHeartbeats 1000000 in
set_option maxRecDepth 100000 in
theorem form_10_l {y z : Option Addr} {s t : Nat} (op n : Int) (ln la : Nat) (w : World) (_hn : ln ≤ 8796093022208) (_ha : la ≤ 200000000000000) (_h0 : op = 10) (_h1 : n = 0) (_h2 : ((ln : Int) == 0) = false) :
    Calls Try.prog 18 #[.agg #[.int .i64 op, .int .i64 n, .slice y ln s, .slice z la t]] w fun e w' => e = .returned (.bool false) ∧ Below w.heap.size w w' := by
  subst op n
  go_enter Try.func18, Try.ntmps18
  go_wp2_with fail
  go_ret
  refine ⟨rfl, ?_⟩
  first
    | exact boxed _ _ _
    | exact (boxed _ _ _).setCell (Nat.le_refl _) _
    | exact ((boxed _ _ _).setCell (Nat.le_refl _) _).setCell (Nat.le_refl _) _

set_option maxHeartbeats 1000000 in
set_option maxRecDepth 100000 in
theorem form_10 {y z : Option Addr} {s t : Nat} (op n : Int) (ln la : Nat) (w : World) (_hn : ln ≤ 8796093022208) (_ha : la ≤ 200000000000000) (_h0 : op = 10) (_h1 : n = 0) (_h2 : ln = 0) :
    Calls Try.prog 18 #[.agg #[.int .i64 op, .int .i64 n, .slice y ln s, .slice z la t]] w fun e w' => e = .returned (.bool ((la : Int) == 0)) ∧ Below w.heap.size w w' := by
  subst op n ln
  go_enter Try.func18, Try.ntmps18
  go_wp2_with fail
  go_ret
  refine ⟨rfl, ?_⟩
  first
    | exact boxed _ _ _
    | exact (boxed _ _ _).setCell (Nat.le_refl _) _
    | exact ((boxed _ _ _).setCell (Nat.le_refl _) _).setCell (Nat.le_refl _) _

set_option maxHeartbeats 1000000 in
set_option maxRecDepth 100000 in
theorem form_2_n {y z : Option Addr} {s t : Nat} (op n : Int) (ln la : Nat) (w : World) (_hn : ln ≤ 8796093022208) (_ha : la ≤ 200000000000000) (_h0 : op = 2) (_h1 : (n == 0) = false) :
    Calls Try.prog 18 #[.agg #[.int .i64 op, .int .i64 n, .slice y ln s, .slice z la t]] w fun e w' => e = .returned (.bool false) ∧ Below w.heap.size w w' := by
  subst op
  go_enter Try.func18, Try.ntmps18
  go_wp2_with fail
  go_ret
  refine ⟨rfl, ?_⟩
  first
    | exact boxed _ _ _
    | exact (boxed _ _ _).setCell (Nat.le_refl _) _
    | exact ((boxed _ _ _).setCell (Nat.le_refl _) _).setCell (Nat.le_refl _) _

set_option maxHeartbeats 1000000 in
set_option maxRecDepth 100000 in
theorem form_2 {y z : Option Addr} {s t : Nat} (op n : Int) (ln la : Nat) (w : World) (_hn : ln ≤ 8796093022208) (_ha : la ≤ 200000000000000) (_h0 : op = 2) (_h1 : n = 0) :
    Calls Try.prog 18 #[.agg #[.int .i64 op, .int .i64 n, .slice y ln s, .slice z la t]] w fun e w' => e = .returned (.bool ((la : Int) == 0)) ∧ Below w.heap.size w w' := by
  subst op n
  go_enter Try.func18, Try.ntmps18
  go_wp2_with fail
  go_ret
  refine ⟨rfl, ?_⟩
  first
    | exact boxed _ _ _
    | exact (boxed _ _ _).setCell (Nat.le_refl _) _
    | exact ((boxed _ _ _).setCell (Nat.le_refl _) _).setCell (Nat.le_refl _) _

set_option maxHeartbeats 1000000 in
set_option maxRecDepth 100000 in
theorem form_3_l {y z : Option Addr} {s t : Nat} (op n : Int) (ln la : Nat) (w : World) (_hn : ln ≤ 8796093022208) (_ha : la ≤ 200000000000000) (_h0 : op = 3) (_h1 : ((ln : Int) == 0) = false) :
    Calls Try.prog 18 #[.agg #[.int .i64 op, .int .i64 n, .slice y ln s, .slice z la t]] w fun e w' => e = .returned (.bool false) ∧ Below w.heap.size w w' := by
  subst op
  go_enter Try.func18, Try.ntmps18
  go_wp2_with fail
  go_ret
  refine ⟨rfl, ?_⟩
  first
    | exact boxed _ _ _
    | exact (boxed _ _ _).setCell (Nat.le_refl _) _
    | exact ((boxed _ _ _).setCell (Nat.le_refl _) _).setCell (Nat.le_refl _) _

set_option maxHeartbeats 1000000 in
set_option maxRecDepth 100000 in
theorem form_3 {y z : Option Addr} {s t : Nat} (op n : Int) (ln la : Nat) (w : World) (_hn : ln ≤ 8796093022208) (_ha : la ≤ 200000000000000) (_h0 : op = 3) (_h1 : ln = 0) :
    Calls Try.prog 18 #[.agg #[.int .i64 op, .int .i64 n, .slice y ln s, .slice z la t]] w fun e w' => e = .returned (.bool ((la : Int) == 0)) ∧ Below w.heap.size w w' := by
  subst op ln
  go_enter Try.func18, Try.ntmps18
  go_wp2_with fail
  go_ret
  refine ⟨rfl, ?_⟩
  first
    | exact boxed _ _ _
    | exact (boxed _ _ _).setCell (Nat.le_refl _) _
    | exact ((boxed _ _ _).setCell (Nat.le_refl _) _).setCell (Nat.le_refl _) _

set_option maxHeartbeats 1000000 in
set_option maxRecDepth 100000 in
theorem form_4_l {y z : Option Addr} {s t : Nat} (op n : Int) (ln la : Nat) (w : World) (_hn : ln ≤ 8796093022208) (_ha : la ≤ 200000000000000) (_h0 : op = 4) (_h1 : ((ln : Int) == 0) = false) :
    Calls Try.prog 18 #[.agg #[.int .i64 op, .int .i64 n, .slice y ln s, .slice z la t]] w fun e w' => e = .returned (.bool false) ∧ Below w.heap.size w w' := by
  subst op
  go_enter Try.func18, Try.ntmps18
  go_wp2_with fail
  go_ret
  refine ⟨rfl, ?_⟩
  first
    | exact boxed _ _ _
    | exact (boxed _ _ _).setCell (Nat.le_refl _) _
    | exact ((boxed _ _ _).setCell (Nat.le_refl _) _).setCell (Nat.le_refl _) _

set_option maxHeartbeats 1000000 in
set_option maxRecDepth 100000 in
theorem form_4 {y z : Option Addr} {s t : Nat} (op n : Int) (ln la : Nat) (w : World) (_hn : ln ≤ 8796093022208) (_ha : la ≤ 200000000000000) (_h0 : op = 4) (_h1 : ln = 0) :
    Calls Try.prog 18 #[.agg #[.int .i64 op, .int .i64 n, .slice y ln s, .slice z la t]] w fun e w' => e = .returned (.bool ((la : Int) == 0)) ∧ Below w.heap.size w w' := by
  subst op ln
  go_enter Try.func18, Try.ntmps18
  go_wp2_with fail
  go_ret
  refine ⟨rfl, ?_⟩
  first
    | exact boxed _ _ _
    | exact (boxed _ _ _).setCell (Nat.le_refl _) _
    | exact ((boxed _ _ _).setCell (Nat.le_refl _) _).setCell (Nat.le_refl _) _

set_option maxHeartbeats 1000000 in
set_option maxRecDepth 100000 in
theorem form_5_l {y z : Option Addr} {s t : Nat} (op n : Int) (ln la : Nat) (w : World) (_hn : ln ≤ 8796093022208) (_ha : la ≤ 200000000000000) (_h0 : op = 5) (_h1 : ((ln : Int) == 0) = false) :
    Calls Try.prog 18 #[.agg #[.int .i64 op, .int .i64 n, .slice y ln s, .slice z la t]] w fun e w' => e = .returned (.bool false) ∧ Below w.heap.size w w' := by
  subst op
  go_enter Try.func18, Try.ntmps18
  go_wp2_with fail
  go_ret
  refine ⟨rfl, ?_⟩
  first
    | exact boxed _ _ _
    | exact (boxed _ _ _).setCell (Nat.le_refl _) _
    | exact ((boxed _ _ _).setCell (Nat.le_refl _) _).setCell (Nat.le_refl _) _

set_option maxHeartbeats 1000000 in
set_option maxRecDepth 100000 in
theorem form_5 {y z : Option Addr} {s t : Nat} (op n : Int) (ln la : Nat) (w : World) (_hn : ln ≤ 8796093022208) (_ha : la ≤ 200000000000000) (_h0 : op = 5) (_h1 : ln = 0) :
    Calls Try.prog 18 #[.agg #[.int .i64 op, .int .i64 n, .slice y ln s, .slice z la t]] w fun e w' => e = .returned (.bool ((la : Int) == 0)) ∧ Below w.heap.size w w' := by
  subst op ln
  go_enter Try.func18, Try.ntmps18
  go_wp2_with fail
  go_ret
  refine ⟨rfl, ?_⟩
  first
    | exact boxed _ _ _
    | exact (boxed _ _ _).setCell (Nat.le_refl _) _
    | exact ((boxed _ _ _).setCell (Nat.le_refl _) _).setCell (Nat.le_refl _) _

set_option maxHeartbeats 1000000 in
set_option maxRecDepth 100000 in
theorem form_7_l {y z : Option Addr} {s t : Nat} (op n : Int) (ln la : Nat) (w : World) (_hn : ln ≤ 8796093022208) (_ha : la ≤ 200000000000000) (_h0 : op = 7) (_h1 : ((ln : Int) == 0) = false) :
    Calls Try.prog 18 #[.agg #[.int .i64 op, .int .i64 n, .slice y ln s, .slice z la t]] w fun e w' => e = .returned (.bool false) ∧ Below w.heap.size w w' := by
  subst op
  go_enter Try.func18, Try.ntmps18
  go_wp2_with fail
  go_ret
  refine ⟨rfl, ?_⟩
  first
    | exact boxed _ _ _
    | exact (boxed _ _ _).setCell (Nat.le_refl _) _
    | exact ((boxed _ _ _).setCell (Nat.le_refl _) _).setCell (Nat.le_refl _) _

set_option maxHeartbeats 1000000 in
set_option maxRecDepth 100000 in
theorem form_7 {y z : Option Addr} {s t : Nat} (op n : Int) (ln la : Nat) (w : World) (_hn : ln ≤ 8796093022208) (_ha : la ≤ 200000000000000) (_h0 : op = 7) (_h1 : ln = 0) :
    Calls Try.prog 18 #[.agg #[.int .i64 op, .int .i64 n, .slice y ln s, .slice z la t]] w fun e w' => e = .returned (.bool true) ∧ Below w.heap.size w w' := by
  subst op ln
  go_enter Try.func18, Try.ntmps18
  go_wp2_with fail
  go_ret
  refine ⟨rfl, ?_⟩
  first
    | exact boxed _ _ _
    | exact (boxed _ _ _).setCell (Nat.le_refl _) _
    | exact ((boxed _ _ _).setCell (Nat.le_refl _) _).setCell (Nat.le_refl _) _

theorem formed_at {y z : Option Addr} {s t : Nat} (op n : Int) (ln la : Nat) (r : Bool) (w : World) (hn : ln ≤ 8796093022208) (ha : la ≤ 200000000000000) (hr : formB op n ln la = r) :
    Calls Try.prog 18 #[.agg #[.int .i64 op, .int .i64 n, .slice y ln s, .slice z la t]] w fun e w' => e = .returned (.bool r) ∧ Below w.heap.size w w' := by
  subst hr
  have hi : ∀ k : Nat, ((k : Int) == 0) = decide (k = 0) := fun k => by by_cases q : k = 0 <;> simp [q]
  have nz : ∀ {k : Int}, ¬ k = 0 → (k == 0) = false := fun q => by simpa using q
  by_cases c1 : op = 1 ∨ op = 6 ∨ op = 8 ∨ op = 9 ∨ op = 10
  · by_cases cn : n = 0
    · by_cases cl : ln = 0
      · have e : formB op n ln la = ((la : Int) == 0) := by rw [hi]; unfold formB; exact decide_eq_decide.2 (by omega)
        rw [e]
        rcases c1 with c | c | c | c | c
        · exact form_1 op n ln la w hn ha c cn cl
        · exact form_6 op n ln la w hn ha c cn cl
        · exact form_8 op n ln la w hn ha c cn cl
        · exact form_9 op n ln la w hn ha c cn cl
        · exact form_10 op n ln la w hn ha c cn cl
      · have e : formB op n ln la = false := by unfold formB; exact decide_eq_false (by omega)
        rw [e]
        rcases c1 with c | c | c | c | c
        · exact form_1_l op n ln la w hn ha c cn (cast_zero cl)
        · exact form_6_l op n ln la w hn ha c cn (cast_zero cl)
        · exact form_8_l op n ln la w hn ha c cn (cast_zero cl)
        · exact form_9_l op n ln la w hn ha c cn (cast_zero cl)
        · exact form_10_l op n ln la w hn ha c cn (cast_zero cl)
    · have e : formB op n ln la = false := by unfold formB; exact decide_eq_false (by omega)
      rw [e]
      rcases c1 with c | c | c | c | c
      · exact form_1_n op n ln la w hn ha c (nz cn)
      · exact form_6_n op n ln la w hn ha c (nz cn)
      · exact form_8_n op n ln la w hn ha c (nz cn)
      · exact form_9_n op n ln la w hn ha c (nz cn)
      · exact form_10_n op n ln la w hn ha c (nz cn)
  · by_cases c2 : op = 2
    · by_cases cn : n = 0
      · have e : formB op n ln la = ((la : Int) == 0) := by rw [hi]; unfold formB; exact decide_eq_decide.2 (by omega)
        rw [e]
        exact form_2 op n ln la w hn ha c2 cn
      · have e : formB op n ln la = false := by unfold formB; exact decide_eq_false (by omega)
        rw [e]
        exact form_2_n op n ln la w hn ha c2 (nz cn)
    · by_cases c3 : op = 3 ∨ op = 4 ∨ op = 5
      · by_cases cl : ln = 0
        · have e : formB op n ln la = ((la : Int) == 0) := by rw [hi]; unfold formB; exact decide_eq_decide.2 (by omega)
          rw [e]
          rcases c3 with c | c | c
          · exact form_3 op n ln la w hn ha c cl
          · exact form_4 op n ln la w hn ha c cl
          · exact form_5 op n ln la w hn ha c cl
        · have e : formB op n ln la = false := by unfold formB; exact decide_eq_false (by omega)
          rw [e]
          rcases c3 with c | c | c
          · exact form_3_l op n ln la w hn ha c (cast_zero cl)
          · exact form_4_l op n ln la w hn ha c (cast_zero cl)
          · exact form_5_l op n ln la w hn ha c (cast_zero cl)
      · by_cases c7 : op = 7
        · by_cases cl : ln = 0
          · have e : formB op n ln la = true := by unfold formB; exact decide_eq_true (by omega)
            rw [e]
            exact form_7 op n ln la w hn ha c7 cl
          · have e : formB op n ln la = false := by unfold formB; exact decide_eq_false (by omega)
            rw [e]
            exact form_7_l op n ln la w hn ha c7 (cast_zero cl)
        · have e : formB op n ln la = false := by unfold formB; exact decide_eq_false (by omega)
          rw [e]
          have ne : ∀ k : Int, ¬ op = k → (op == k) = false := fun k q => by simpa using q
          exact form_other op n ln la w hn ha (ne 2 (by omega)) (ne 3 (by omega)) (ne 4 (by omega)) (ne 5 (by omega)) (ne 7 (by omega)) (ne 1 (by omega)) (ne 6 (by omega)) (ne 8 (by omega)) (ne 9 (by omega)) (ne 10 (by omega))

theorem number_at (n m : Int) (v : Value) (w : World) (hv : errV (if n < 0 ∨ m < n then 6 else 0) = v) :
    Calls Try.prog 20 #[.int .i64 n, .int .i64 m] w fun e w' => e = .returned v ∧ w = w' := by
  subst hv
  by_cases c : n < 0 ∨ m < n
  · have F := hid (rfits_at false n m w (decide_eq_false (by omega)))
    have E : errV (if n < 0 ∨ m < n then 6 else 0) = .iface 52 (.int .i64 6) := by rw [if_pos c]; rfl
    rw [E]
    clear c E
    go_enter Try.func20, Try.ntmps20
    go_wp2_with fail
    refine F.out.mono ?_
    rintro e w1 ⟨rfl, rfl⟩
    go_wp2_with fail
    go_ret
    exact ⟨rfl, rfl⟩
  · have F := hid (rfits_at true n m w (decide_eq_true (by omega)))
    have E : errV (if n < 0 ∨ m < n then 6 else 0) = .nilIface := by rw [if_neg c]; rfl
    rw [E]
    clear c E
    go_enter Try.func20, Try.ntmps20
    go_wp2_with fail
    refine F.out.mono ?_
    rintro e w1 ⟨rfl, rfl⟩
    go_wp2_with fail
    go_ret
    exact ⟨rfl, rfl⟩

theorem matchE_form (m : Mt) : formB m.op m.n m.N.length m.A.length = false → matchE m = 1 := by
  intro h
  have h := of_decide_eq_false h
  unfold matchE
  by_cases c : m.op < 1 ∨ 10 < m.op
  · rw [if_pos c]
  · rw [if_neg c, if_pos (by omega)]

theorem matchE_ok (m : Mt) : formB m.op m.n m.N.length m.A.length = true → (1 ≤ m.op ∧ m.op ≤ 10) ∧ matchE m = if m.op = 2 then Nm.checkN (m.N.map Nm.bs) else if m.op = 7 ∧ 16 < m.A.length then 6 else if m.n < 0 ∨ mostN m.op m.A.length < m.n then 6 else 0 := by
  intro h
  have h := of_decide_eq_true h
  refine ⟨⟨h.1, h.2.1⟩, ?_⟩
  unfold matchE
  rw [if_neg (by omega), if_neg (by omega)]

set_option maxHeartbeats 1000000 in
set_option maxRecDepth 100000 in
theorem chk_unformed {y z : Option Addr} {s t : Nat} (n : Int) (N : List ByteArray) (A : List Int) (op : Int) (w : World) (hS : Strs w y s N) (hB : Bys w z t A) (hF : formB op n N.length A.length = false) :
    Calls Try.prog 15 #[.agg #[.int .i64 op, .int .i64 n, .slice y N.length s, .slice z A.length t]] w fun e w' => e = .returned (.iface 52 (.int .i64 1)) ∧ Below w.heap.size w w' := by
  have B0 := boxed 45 w #[.int .i64 op, .int .i64 n, .slice y N.length s, .slice z A.length t]
  have K := Bl.new 45 w #[.int .i64 op, .int .i64 n, .slice y N.length s, .slice z A.length t]
  have hla := hB.2.1
  have hln := hS.2.1
  obtain ⟨W, hW⟩ : ∃ W, w.alloc (.cells #[.int .i64 op, .int .i64 n, .slice y N.length s, .slice z A.length t] 45) = W := ⟨_, rfl⟩
  have SS := hid (hS.below B0)
  have DD := hid (hB.below B0)
  rw [hW] at B0 K SS DD
  obtain ⟨m0, m1, m2, m3⟩ := bl4 K
  have KK := hid K
  have WW := hid B0
  have HW := hid hW
  have FF := hid hF
  clear hS hB B0 K hW hF
  go_enter Try.func15, Try.ntmps15
  go_upto_region 1 with fail
  rw [HW.out]
  clear HW
  go_wp2_with fail
  refine (formed_at _ n N.length A.length false W (by omega) (by omega) FF.out).mono ?_
  rintro e w1 ⟨rfl, b⟩
  replace WW := hid (grown_on WW.out b)
  replace KK := hid (KK.out.below b)
  replace SS := hid (SS.out.below b)
  replace DD := hid (DD.out.below b)
  clear b m0 m1 m2 m3
  obtain ⟨m0, m1, m2, m3⟩ := bl4 KK.out
  go_wp2_with fail
  go_ret
  exact ⟨rfl, WW.out⟩

set_option maxHeartbeats 1000000 in
set_option maxRecDepth 100000 in
theorem chk_2 {y z : Option Addr} {s t : Nat} (n : Int) (N : List ByteArray) (A : List Int) (w : World) (hS : Strs w y s N) (hB : Bys w z t A) (hF : formB 2 n N.length A.length = true) (v : Value) (hv : errV (Nm.checkN (N.map Nm.bs)) = v) :
    Calls Try.prog 15 #[.agg #[.int .i64 2, .int .i64 n, .slice y N.length s, .slice z A.length t]] w fun e w' => e = .returned v ∧ Below w.heap.size w w' := by
  have B0 := boxed 45 w #[.int .i64 2, .int .i64 n, .slice y N.length s, .slice z A.length t]
  have K := Bl.new 45 w #[.int .i64 2, .int .i64 n, .slice y N.length s, .slice z A.length t]
  have hla := hB.2.1
  have hln := hS.2.1
  obtain ⟨W, hW⟩ : ∃ W, w.alloc (.cells #[.int .i64 2, .int .i64 n, .slice y N.length s, .slice z A.length t] 45) = W := ⟨_, rfl⟩
  have SS := hid (hS.below B0)
  have DD := hid (hB.below B0)
  rw [hW] at B0 K SS DD
  obtain ⟨m0, m1, m2, m3⟩ := bl4 K
  have KK := hid K
  have WW := hid B0
  have HW := hid hW
  have FF := hid hF
  have HV := hid hv
  clear hv
  clear hS hB B0 K hW hF
  go_enter Try.func15, Try.ntmps15
  go_upto_region 1 with fail
  rw [HW.out]
  clear HW
  go_wp2_with fail
  refine (formed_at _ n N.length A.length true W (by omega) (by omega) FF.out).mono ?_
  rintro e w1 ⟨rfl, b⟩
  replace WW := hid (grown_on WW.out b)
  replace KK := hid (KK.out.below b)
  replace SS := hid (SS.out.below b)
  replace DD := hid (DD.out.below b)
  clear b m0 m1 m2 m3
  obtain ⟨m0, m1, m2, m3⟩ := bl4 KK.out
  go_wp2_with fail
  refine (check_at v N w1 SS.out rfl HV.out).mono ?_
  rintro e w2 ⟨rfl, rfl⟩
  go_wp2_with fail
  go_ret
  exact ⟨rfl, WW.out⟩

set_option maxHeartbeats 1000000 in
set_option maxRecDepth 100000 in
theorem chk_3 {y z : Option Addr} {s t : Nat} (n : Int) (N : List ByteArray) (A : List Int) (w : World) (hS : Strs w y s N) (hB : Bys w z t A) (hF : formB 3 n N.length A.length = true) (v : Value) (hv : errV (if n < 0 ∨ 65535 < n then 6 else 0) = v) :
    Calls Try.prog 15 #[.agg #[.int .i64 3, .int .i64 n, .slice y N.length s, .slice z A.length t]] w fun e w' => e = .returned v ∧ Below w.heap.size w w' := by
  have B0 := boxed 45 w #[.int .i64 3, .int .i64 n, .slice y N.length s, .slice z A.length t]
  have K := Bl.new 45 w #[.int .i64 3, .int .i64 n, .slice y N.length s, .slice z A.length t]
  have hla := hB.2.1
  have hln := hS.2.1
  obtain ⟨W, hW⟩ : ∃ W, w.alloc (.cells #[.int .i64 3, .int .i64 n, .slice y N.length s, .slice z A.length t] 45) = W := ⟨_, rfl⟩
  have SS := hid (hS.below B0)
  have DD := hid (hB.below B0)
  rw [hW] at B0 K SS DD
  obtain ⟨m0, m1, m2, m3⟩ := bl4 K
  have KK := hid K
  have WW := hid B0
  have HW := hid hW
  have FF := hid hF
  have HV := hid hv
  clear hv
  clear hS hB B0 K hW hF
  go_enter Try.func15, Try.ntmps15
  go_upto_region 1 with fail
  rw [HW.out]
  clear HW
  go_wp2_with fail
  refine (formed_at _ n N.length A.length true W (by omega) (by omega) FF.out).mono ?_
  rintro e w1 ⟨rfl, b⟩
  replace WW := hid (grown_on WW.out b)
  replace KK := hid (KK.out.below b)
  replace SS := hid (SS.out.below b)
  replace DD := hid (DD.out.below b)
  clear b m0 m1 m2 m3
  obtain ⟨m0, m1, m2, m3⟩ := bl4 KK.out
  go_wp2_with fail
  refine (number_at n 65535 v w1 HV.out).mono ?_
  rintro e w2 ⟨rfl, rfl⟩
  go_wp2_with fail
  go_ret
  exact ⟨rfl, WW.out⟩

set_option maxHeartbeats 1000000 in
set_option maxRecDepth 100000 in
theorem chk_4 {y z : Option Addr} {s t : Nat} (n : Int) (N : List ByteArray) (A : List Int) (w : World) (hS : Strs w y s N) (hB : Bys w z t A) (hF : formB 4 n N.length A.length = true) (v : Value) (hv : errV (if n < 0 ∨ 65535 < n then 6 else 0) = v) :
    Calls Try.prog 15 #[.agg #[.int .i64 4, .int .i64 n, .slice y N.length s, .slice z A.length t]] w fun e w' => e = .returned v ∧ Below w.heap.size w w' := by
  have B0 := boxed 45 w #[.int .i64 4, .int .i64 n, .slice y N.length s, .slice z A.length t]
  have K := Bl.new 45 w #[.int .i64 4, .int .i64 n, .slice y N.length s, .slice z A.length t]
  have hla := hB.2.1
  have hln := hS.2.1
  obtain ⟨W, hW⟩ : ∃ W, w.alloc (.cells #[.int .i64 4, .int .i64 n, .slice y N.length s, .slice z A.length t] 45) = W := ⟨_, rfl⟩
  have SS := hid (hS.below B0)
  have DD := hid (hB.below B0)
  rw [hW] at B0 K SS DD
  obtain ⟨m0, m1, m2, m3⟩ := bl4 K
  have KK := hid K
  have WW := hid B0
  have HW := hid hW
  have FF := hid hF
  have HV := hid hv
  clear hv
  clear hS hB B0 K hW hF
  go_enter Try.func15, Try.ntmps15
  go_upto_region 1 with fail
  rw [HW.out]
  clear HW
  go_wp2_with fail
  refine (formed_at _ n N.length A.length true W (by omega) (by omega) FF.out).mono ?_
  rintro e w1 ⟨rfl, b⟩
  replace WW := hid (grown_on WW.out b)
  replace KK := hid (KK.out.below b)
  replace SS := hid (SS.out.below b)
  replace DD := hid (DD.out.below b)
  clear b m0 m1 m2 m3
  obtain ⟨m0, m1, m2, m3⟩ := bl4 KK.out
  go_wp2_with fail
  refine (number_at n 65535 v w1 HV.out).mono ?_
  rintro e w2 ⟨rfl, rfl⟩
  go_wp2_with fail
  go_ret
  exact ⟨rfl, WW.out⟩

set_option maxHeartbeats 1000000 in
set_option maxRecDepth 100000 in
theorem chk_5 {y z : Option Addr} {s t : Nat} (n : Int) (N : List ByteArray) (A : List Int) (w : World) (hS : Strs w y s N) (hB : Bys w z t A) (hF : formB 5 n N.length A.length = true) (v : Value) (hv : errV (if n < 0 ∨ 15 < n then 6 else 0) = v) :
    Calls Try.prog 15 #[.agg #[.int .i64 5, .int .i64 n, .slice y N.length s, .slice z A.length t]] w fun e w' => e = .returned v ∧ Below w.heap.size w w' := by
  have B0 := boxed 45 w #[.int .i64 5, .int .i64 n, .slice y N.length s, .slice z A.length t]
  have K := Bl.new 45 w #[.int .i64 5, .int .i64 n, .slice y N.length s, .slice z A.length t]
  have hla := hB.2.1
  have hln := hS.2.1
  obtain ⟨W, hW⟩ : ∃ W, w.alloc (.cells #[.int .i64 5, .int .i64 n, .slice y N.length s, .slice z A.length t] 45) = W := ⟨_, rfl⟩
  have SS := hid (hS.below B0)
  have DD := hid (hB.below B0)
  rw [hW] at B0 K SS DD
  obtain ⟨m0, m1, m2, m3⟩ := bl4 K
  have KK := hid K
  have WW := hid B0
  have HW := hid hW
  have FF := hid hF
  have HV := hid hv
  clear hv
  clear hS hB B0 K hW hF
  go_enter Try.func15, Try.ntmps15
  go_upto_region 1 with fail
  rw [HW.out]
  clear HW
  go_wp2_with fail
  refine (formed_at _ n N.length A.length true W (by omega) (by omega) FF.out).mono ?_
  rintro e w1 ⟨rfl, b⟩
  replace WW := hid (grown_on WW.out b)
  replace KK := hid (KK.out.below b)
  replace SS := hid (SS.out.below b)
  replace DD := hid (DD.out.below b)
  clear b m0 m1 m2 m3
  obtain ⟨m0, m1, m2, m3⟩ := bl4 KK.out
  go_wp2_with fail
  refine (number_at n 15 v w1 HV.out).mono ?_
  rintro e w2 ⟨rfl, rfl⟩
  go_wp2_with fail
  go_ret
  exact ⟨rfl, WW.out⟩

set_option maxHeartbeats 1000000 in
set_option maxRecDepth 100000 in
theorem chk_7_long {y z : Option Addr} {s t : Nat} (n : Int) (N : List ByteArray) (A : List Int) (w : World) (hS : Strs w y s N) (hB : Bys w z t A) (hF : formB 7 n N.length A.length = true) (h16 : (16 : Int) < (A.length : Int)) :
    Calls Try.prog 15 #[.agg #[.int .i64 7, .int .i64 n, .slice y N.length s, .slice z A.length t]] w fun e w' => e = .returned (.iface 52 (.int .i64 6)) ∧ Below w.heap.size w w' := by
  have B0 := boxed 45 w #[.int .i64 7, .int .i64 n, .slice y N.length s, .slice z A.length t]
  have K := Bl.new 45 w #[.int .i64 7, .int .i64 n, .slice y N.length s, .slice z A.length t]
  have hla := hB.2.1
  have hln := hS.2.1
  obtain ⟨W, hW⟩ : ∃ W, w.alloc (.cells #[.int .i64 7, .int .i64 n, .slice y N.length s, .slice z A.length t] 45) = W := ⟨_, rfl⟩
  have SS := hid (hS.below B0)
  have DD := hid (hB.below B0)
  rw [hW] at B0 K SS DD
  obtain ⟨m0, m1, m2, m3⟩ := bl4 K
  have KK := hid K
  have WW := hid B0
  have HW := hid hW
  have FF := hid hF
  clear hS hB B0 K hW hF
  go_enter Try.func15, Try.ntmps15
  go_upto_region 1 with fail
  rw [HW.out]
  clear HW
  go_wp2_with fail
  refine (formed_at _ n N.length A.length true W (by omega) (by omega) FF.out).mono ?_
  rintro e w1 ⟨rfl, b⟩
  replace WW := hid (grown_on WW.out b)
  replace KK := hid (KK.out.below b)
  replace SS := hid (SS.out.below b)
  replace DD := hid (DD.out.below b)
  clear b m0 m1 m2 m3
  obtain ⟨m0, m1, m2, m3⟩ := bl4 KK.out
  go_wp2_with fail
  go_ret
  exact ⟨rfl, WW.out⟩

set_option maxHeartbeats 1000000 in
set_option maxRecDepth 100000 in
theorem chk_7 {y z : Option Addr} {s t : Nat} (n : Int) (N : List ByteArray) (A : List Int) (w : World) (hS : Strs w y s N) (hB : Bys w z t A) (hF : formB 7 n N.length A.length = true) (h16 : ¬ (16 : Int) < (A.length : Int)) (v : Value) (hv : errV (if n < 0 ∨ (A.length : Int) * 8 < n then 6 else 0) = v) :
    Calls Try.prog 15 #[.agg #[.int .i64 7, .int .i64 n, .slice y N.length s, .slice z A.length t]] w fun e w' => e = .returned v ∧ Below w.heap.size w w' := by
  have B0 := boxed 45 w #[.int .i64 7, .int .i64 n, .slice y N.length s, .slice z A.length t]
  have K := Bl.new 45 w #[.int .i64 7, .int .i64 n, .slice y N.length s, .slice z A.length t]
  have hla := hB.2.1
  have hln := hS.2.1
  obtain ⟨W, hW⟩ : ∃ W, w.alloc (.cells #[.int .i64 7, .int .i64 n, .slice y N.length s, .slice z A.length t] 45) = W := ⟨_, rfl⟩
  have SS := hid (hS.below B0)
  have DD := hid (hB.below B0)
  rw [hW] at B0 K SS DD
  obtain ⟨m0, m1, m2, m3⟩ := bl4 K
  have KK := hid K
  have WW := hid B0
  have HW := hid hW
  have FF := hid hF
  have HV := hid hv
  clear hv
  clear hS hB B0 K hW hF
  go_enter Try.func15, Try.ntmps15
  go_upto_region 1 with fail
  rw [HW.out]
  clear HW
  go_wp2_with fail
  refine (formed_at _ n N.length A.length true W (by omega) (by omega) FF.out).mono ?_
  rintro e w1 ⟨rfl, b⟩
  replace WW := hid (grown_on WW.out b)
  replace KK := hid (KK.out.below b)
  replace SS := hid (SS.out.below b)
  replace DD := hid (DD.out.below b)
  clear b m0 m1 m2 m3
  obtain ⟨m0, m1, m2, m3⟩ := bl4 KK.out
  go_wp2_with fail
  refine (number_at n _ v w1 HV.out).mono ?_
  rintro e w2 ⟨rfl, rfl⟩
  go_wp2_with fail
  go_ret
  exact ⟨rfl, WW.out⟩

set_option maxHeartbeats 1000000 in
set_option maxRecDepth 100000 in
theorem chk_1 {y z : Option Addr} {s t : Nat} (n : Int) (N : List ByteArray) (A : List Int) (w : World) (hS : Strs w y s N) (hB : Bys w z t A) (hF : formB 1 n N.length A.length = true) :
    Calls Try.prog 15 #[.agg #[.int .i64 1, .int .i64 n, .slice y N.length s, .slice z A.length t]] w fun e w' => e = .returned .nilIface ∧ Below w.heap.size w w' := by
  have B0 := boxed 45 w #[.int .i64 1, .int .i64 n, .slice y N.length s, .slice z A.length t]
  have K := Bl.new 45 w #[.int .i64 1, .int .i64 n, .slice y N.length s, .slice z A.length t]
  have hla := hB.2.1
  have hln := hS.2.1
  obtain ⟨W, hW⟩ : ∃ W, w.alloc (.cells #[.int .i64 1, .int .i64 n, .slice y N.length s, .slice z A.length t] 45) = W := ⟨_, rfl⟩
  have SS := hid (hS.below B0)
  have DD := hid (hB.below B0)
  rw [hW] at B0 K SS DD
  obtain ⟨m0, m1, m2, m3⟩ := bl4 K
  have KK := hid K
  have WW := hid B0
  have HW := hid hW
  have FF := hid hF
  clear hS hB B0 K hW hF
  go_enter Try.func15, Try.ntmps15
  go_upto_region 1 with fail
  rw [HW.out]
  clear HW
  go_wp2_with fail
  refine (formed_at _ n N.length A.length true W (by omega) (by omega) FF.out).mono ?_
  rintro e w1 ⟨rfl, b⟩
  replace WW := hid (grown_on WW.out b)
  replace KK := hid (KK.out.below b)
  replace SS := hid (SS.out.below b)
  replace DD := hid (DD.out.below b)
  clear b m0 m1 m2 m3
  obtain ⟨m0, m1, m2, m3⟩ := bl4 KK.out
  go_wp2_with fail
  go_ret
  exact ⟨rfl, WW.out⟩

set_option maxHeartbeats 1000000 in
set_option maxRecDepth 100000 in
theorem chk_6 {y z : Option Addr} {s t : Nat} (n : Int) (N : List ByteArray) (A : List Int) (w : World) (hS : Strs w y s N) (hB : Bys w z t A) (hF : formB 6 n N.length A.length = true) :
    Calls Try.prog 15 #[.agg #[.int .i64 6, .int .i64 n, .slice y N.length s, .slice z A.length t]] w fun e w' => e = .returned .nilIface ∧ Below w.heap.size w w' := by
  have B0 := boxed 45 w #[.int .i64 6, .int .i64 n, .slice y N.length s, .slice z A.length t]
  have K := Bl.new 45 w #[.int .i64 6, .int .i64 n, .slice y N.length s, .slice z A.length t]
  have hla := hB.2.1
  have hln := hS.2.1
  obtain ⟨W, hW⟩ : ∃ W, w.alloc (.cells #[.int .i64 6, .int .i64 n, .slice y N.length s, .slice z A.length t] 45) = W := ⟨_, rfl⟩
  have SS := hid (hS.below B0)
  have DD := hid (hB.below B0)
  rw [hW] at B0 K SS DD
  obtain ⟨m0, m1, m2, m3⟩ := bl4 K
  have KK := hid K
  have WW := hid B0
  have HW := hid hW
  have FF := hid hF
  clear hS hB B0 K hW hF
  go_enter Try.func15, Try.ntmps15
  go_upto_region 1 with fail
  rw [HW.out]
  clear HW
  go_wp2_with fail
  refine (formed_at _ n N.length A.length true W (by omega) (by omega) FF.out).mono ?_
  rintro e w1 ⟨rfl, b⟩
  replace WW := hid (grown_on WW.out b)
  replace KK := hid (KK.out.below b)
  replace SS := hid (SS.out.below b)
  replace DD := hid (DD.out.below b)
  clear b m0 m1 m2 m3
  obtain ⟨m0, m1, m2, m3⟩ := bl4 KK.out
  go_wp2_with fail
  go_ret
  exact ⟨rfl, WW.out⟩

set_option maxHeartbeats 1000000 in
set_option maxRecDepth 100000 in
theorem chk_8 {y z : Option Addr} {s t : Nat} (n : Int) (N : List ByteArray) (A : List Int) (w : World) (hS : Strs w y s N) (hB : Bys w z t A) (hF : formB 8 n N.length A.length = true) :
    Calls Try.prog 15 #[.agg #[.int .i64 8, .int .i64 n, .slice y N.length s, .slice z A.length t]] w fun e w' => e = .returned .nilIface ∧ Below w.heap.size w w' := by
  have B0 := boxed 45 w #[.int .i64 8, .int .i64 n, .slice y N.length s, .slice z A.length t]
  have K := Bl.new 45 w #[.int .i64 8, .int .i64 n, .slice y N.length s, .slice z A.length t]
  have hla := hB.2.1
  have hln := hS.2.1
  obtain ⟨W, hW⟩ : ∃ W, w.alloc (.cells #[.int .i64 8, .int .i64 n, .slice y N.length s, .slice z A.length t] 45) = W := ⟨_, rfl⟩
  have SS := hid (hS.below B0)
  have DD := hid (hB.below B0)
  rw [hW] at B0 K SS DD
  obtain ⟨m0, m1, m2, m3⟩ := bl4 K
  have KK := hid K
  have WW := hid B0
  have HW := hid hW
  have FF := hid hF
  clear hS hB B0 K hW hF
  go_enter Try.func15, Try.ntmps15
  go_upto_region 1 with fail
  rw [HW.out]
  clear HW
  go_wp2_with fail
  refine (formed_at _ n N.length A.length true W (by omega) (by omega) FF.out).mono ?_
  rintro e w1 ⟨rfl, b⟩
  replace WW := hid (grown_on WW.out b)
  replace KK := hid (KK.out.below b)
  replace SS := hid (SS.out.below b)
  replace DD := hid (DD.out.below b)
  clear b m0 m1 m2 m3
  obtain ⟨m0, m1, m2, m3⟩ := bl4 KK.out
  go_wp2_with fail
  go_ret
  exact ⟨rfl, WW.out⟩

set_option maxHeartbeats 1000000 in
set_option maxRecDepth 100000 in
theorem chk_9 {y z : Option Addr} {s t : Nat} (n : Int) (N : List ByteArray) (A : List Int) (w : World) (hS : Strs w y s N) (hB : Bys w z t A) (hF : formB 9 n N.length A.length = true) :
    Calls Try.prog 15 #[.agg #[.int .i64 9, .int .i64 n, .slice y N.length s, .slice z A.length t]] w fun e w' => e = .returned .nilIface ∧ Below w.heap.size w w' := by
  have B0 := boxed 45 w #[.int .i64 9, .int .i64 n, .slice y N.length s, .slice z A.length t]
  have K := Bl.new 45 w #[.int .i64 9, .int .i64 n, .slice y N.length s, .slice z A.length t]
  have hla := hB.2.1
  have hln := hS.2.1
  obtain ⟨W, hW⟩ : ∃ W, w.alloc (.cells #[.int .i64 9, .int .i64 n, .slice y N.length s, .slice z A.length t] 45) = W := ⟨_, rfl⟩
  have SS := hid (hS.below B0)
  have DD := hid (hB.below B0)
  rw [hW] at B0 K SS DD
  obtain ⟨m0, m1, m2, m3⟩ := bl4 K
  have KK := hid K
  have WW := hid B0
  have HW := hid hW
  have FF := hid hF
  clear hS hB B0 K hW hF
  go_enter Try.func15, Try.ntmps15
  go_upto_region 1 with fail
  rw [HW.out]
  clear HW
  go_wp2_with fail
  refine (formed_at _ n N.length A.length true W (by omega) (by omega) FF.out).mono ?_
  rintro e w1 ⟨rfl, b⟩
  replace WW := hid (grown_on WW.out b)
  replace KK := hid (KK.out.below b)
  replace SS := hid (SS.out.below b)
  replace DD := hid (DD.out.below b)
  clear b m0 m1 m2 m3
  obtain ⟨m0, m1, m2, m3⟩ := bl4 KK.out
  go_wp2_with fail
  go_ret
  exact ⟨rfl, WW.out⟩

set_option maxHeartbeats 1000000 in
set_option maxRecDepth 100000 in
theorem chk_10 {y z : Option Addr} {s t : Nat} (n : Int) (N : List ByteArray) (A : List Int) (w : World) (hS : Strs w y s N) (hB : Bys w z t A) (hF : formB 10 n N.length A.length = true) :
    Calls Try.prog 15 #[.agg #[.int .i64 10, .int .i64 n, .slice y N.length s, .slice z A.length t]] w fun e w' => e = .returned .nilIface ∧ Below w.heap.size w w' := by
  have B0 := boxed 45 w #[.int .i64 10, .int .i64 n, .slice y N.length s, .slice z A.length t]
  have K := Bl.new 45 w #[.int .i64 10, .int .i64 n, .slice y N.length s, .slice z A.length t]
  have hla := hB.2.1
  have hln := hS.2.1
  obtain ⟨W, hW⟩ : ∃ W, w.alloc (.cells #[.int .i64 10, .int .i64 n, .slice y N.length s, .slice z A.length t] 45) = W := ⟨_, rfl⟩
  have SS := hid (hS.below B0)
  have DD := hid (hB.below B0)
  rw [hW] at B0 K SS DD
  obtain ⟨m0, m1, m2, m3⟩ := bl4 K
  have KK := hid K
  have WW := hid B0
  have HW := hid hW
  have FF := hid hF
  clear hS hB B0 K hW hF
  go_enter Try.func15, Try.ntmps15
  go_upto_region 1 with fail
  rw [HW.out]
  clear HW
  go_wp2_with fail
  refine (formed_at _ n N.length A.length true W (by omega) (by omega) FF.out).mono ?_
  rintro e w1 ⟨rfl, b⟩
  replace WW := hid (grown_on WW.out b)
  replace KK := hid (KK.out.below b)
  replace SS := hid (SS.out.below b)
  replace DD := hid (DD.out.below b)
  clear b m0 m1 m2 m3
  obtain ⟨m0, m1, m2, m3⟩ := bl4 KK.out
  go_wp2_with fail
  go_ret
  exact ⟨rfl, WW.out⟩

/-- What is wrong with a node is told. -/
theorem ncheck_any {y z : Option Addr} {s t : Nat} (m : Mt) (v : Value) (w : World) (hS : Strs w y s m.N) (hB : Bys w z t m.A) (hv : errV (matchE m) = v) :
    Calls Try.prog 15 #[.agg #[.int .i64 m.op, .int .i64 m.n, .slice y m.N.length s, .slice z m.A.length t]] w fun e w' => e = .returned v ∧ Below w.heap.size w w' := by
  subst hv
  obtain ⟨op, n, N, A⟩ := m
  simp only at *
  cases hf : formB op n N.length A.length with
  | false =>
    rw [matchE_form ⟨op, n, N, A⟩ hf]
    exact chk_unformed n N A op w hS hB hf
  | true =>
    obtain ⟨⟨r1, r2⟩, e⟩ := matchE_ok ⟨op, n, N, A⟩ hf
    have f := of_decide_eq_true hf
    rw [e]
    simp only at *
    have hc : op = 1 ∨ op = 2 ∨ op = 3 ∨ op = 4 ∨ op = 5 ∨ op = 6 ∨ op = 7 ∨ op = 8 ∨ op = 9 ∨ op = 10 := by omega
    have none_ : ∀ o : Int, ¬ o = 2 → ¬ o = 3 → ¬ o = 4 → ¬ o = 5 → ¬ o = 7 → op = o → errV (if op = 2 then Nm.checkN (N.map Nm.bs) else if op = 7 ∧ 16 < A.length then 6 else if n < 0 ∨ mostN op A.length < n then 6 else 0) = .nilIface := by
      intro o h2 h3 h4 h5 h7 ho
      have e2 : mostN op A.length = 65535 := by unfold mostN; rw [if_neg (by omega), if_neg (by omega)]
      rw [e2, if_neg (by omega), if_neg (by omega), if_neg (by omega)]
      rfl
    rcases hc with h | h | h | h | h | h | h | h | h | h
    · rw [none_ 1 (by decide) (by decide) (by decide) (by decide) (by decide) h]; subst h; exact chk_1 n N A w hS hB hf
    · subst h; rw [if_pos rfl]; exact chk_2 n N A w hS hB hf _ rfl
    · subst h; rw [if_neg (by decide), if_neg (by omega)]; exact chk_3 n N A w hS hB hf _ rfl
    · subst h; rw [if_neg (by decide), if_neg (by omega)]; exact chk_4 n N A w hS hB hf _ rfl
    · subst h; rw [if_neg (by decide), if_neg (by omega)]; exact chk_5 n N A w hS hB hf _ rfl
    · rw [none_ 6 (by decide) (by decide) (by decide) (by decide) (by decide) h]; subst h; exact chk_6 n N A w hS hB hf
    · subst h
      rw [if_neg (by decide)]
      by_cases c : 16 < A.length
      · rw [if_pos ⟨rfl, c⟩]; exact chk_7_long n N A w hS hB hf (by omega)
      · rw [if_neg (by omega)]; exact chk_7 n N A w hS hB hf (by omega) _ (by rw [Int.mul_comm]; rfl)
    · rw [none_ 8 (by decide) (by decide) (by decide) (by decide) (by decide) h]; subst h; exact chk_8 n N A w hS hB hf
    · rw [none_ 9 (by decide) (by decide) (by decide) (by decide) (by decide) h]; subst h; exact chk_9 n N A w hS hB hf
    · rw [none_ 10 (by decide) (by decide) (by decide) (by decide) (by decide) h]; subst h; exact chk_10 n N A w hS hB hf

end Go.Proofs.Ytnbabdfcamdapaa.Ru
