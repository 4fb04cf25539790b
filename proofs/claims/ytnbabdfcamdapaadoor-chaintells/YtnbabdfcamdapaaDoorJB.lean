/-
  The walks of the document's own answers on rules: MatchFault. Written by genrl.py. The walks of the document's own answers on rules: RuleFault, Ahead. The walk of the document's own answer Ahead: where a rule begins.
-/
import Derived.Test.YtnbabdfcamdapaaDoorRlTk
import Derived.Test.YtnbabdfcamdapaaDoorRefFault
import Derived.Deep.Cut
namespace Go.Proofs.YtnbabdfcamdapaaDoor.Ru
open Go.RowKit Go.Deep

set_option maxHeartbeats 1000000 in
set_option maxRecDepth 100000 in
theorem mf_low {y z : Option Addr} {s t : Nat} (op : Int) (n : Int) (ln la : Nat) (w : World) (_hn : ln ≤ 8796093022208) (_ha : la ≤ 200000000000000) (_h : op < 1) :
    Calls Tryd.prog 18 #[.agg #[.int .i64 op, .int .i64 n, .slice y ln s, .slice z la t]] w fun e w' => e = .returned (.int .i64 1) ∧ Below w.heap.size w w' := by
  go_enter Tryd.func18, Tryd.ntmps18
  go_wp2_with fail
  go_ret
  exact ⟨rfl, (Below.refl _ w).alloc (Nat.le_refl _) _⟩

set_option maxHeartbeats 1000000 in
set_option maxRecDepth 100000 in
theorem mf_high {y z : Option Addr} {s t : Nat} (op : Int) (n : Int) (ln la : Nat) (w : World) (_hn : ln ≤ 8796093022208) (_ha : la ≤ 200000000000000) (_h1 : 1 ≤ op) (_h : 10 < op) :
    Calls Tryd.prog 18 #[.agg #[.int .i64 op, .int .i64 n, .slice y ln s, .slice z la t]] w fun e w' => e = .returned (.int .i64 1) ∧ Below w.heap.size w w' := by
  go_enter Tryd.func18, Tryd.ntmps18
  go_wp2_with fail
  go_ret
  exact ⟨rfl, (Below.refl _ w).alloc (Nat.le_refl _) _⟩

set_option maxHeartbeats 1000000 in
set_option maxRecDepth 100000 in
theorem mf_plain_n {y z : Option Addr} {s t : Nat} (op : Int) (n : Int) (ln la : Nat) (w : World) (_hn : ln ≤ 8796093022208) (_ha : la ≤ 200000000000000) (_r1 : 1 ≤ op) (_r2 : op ≤ 10) (_k2 : (op == 2) = false) (_k2' : (op != 2) = true) (_k3 : (op == 3) = false) (_k4 : (op == 4) = false) (_k5 : (op == 5) = false) (_k7 : (op == 7) = false) (_k7' : (op != 7) = true) (_h : (n != 0) = true) :
    Calls Tryd.prog 18 #[.agg #[.int .i64 op, .int .i64 n, .slice y ln s, .slice z la t]] w fun e w' => e = .returned (.int .i64 1) ∧ Below w.heap.size w w' := by
  go_enter Tryd.func18, Tryd.ntmps18
  go_wp2_with fail
  go_ret
  exact ⟨rfl, (Below.refl _ w).alloc (Nat.le_refl _) _⟩

set_option maxHeartbeats 1000000 in
set_option maxRecDepth 100000 in
theorem mf_plain_N {y z : Option Addr} {s t : Nat} (op : Int) (n : Int) (ln la : Nat) (w : World) (_hn : ln ≤ 8796093022208) (_ha : la ≤ 200000000000000) (_r1 : 1 ≤ op) (_r2 : op ≤ 10) (_k2 : (op == 2) = false) (_k2' : (op != 2) = true) (_k3 : (op == 3) = false) (_k4 : (op == 4) = false) (_k5 : (op == 5) = false) (_k7 : (op == 7) = false) (_k7' : (op != 7) = true) (_h : (n != 0) = false) (_hN : (0 : Int) < (ln : Int)) :
    Calls Tryd.prog 18 #[.agg #[.int .i64 op, .int .i64 n, .slice y ln s, .slice z la t]] w fun e w' => e = .returned (.int .i64 1) ∧ Below w.heap.size w w' := by
  go_enter Tryd.func18, Tryd.ntmps18
  go_wp2_with fail
  go_ret
  exact ⟨rfl, (Below.refl _ w).alloc (Nat.le_refl _) _⟩

set_option maxHeartbeats 1000000 in
set_option maxRecDepth 100000 in
theorem mf_plain_A {y z : Option Addr} {s t : Nat} (op : Int) (n : Int) (ln la : Nat) (w : World) (_hn : ln ≤ 8796093022208) (_ha : la ≤ 200000000000000) (_r1 : 1 ≤ op) (_r2 : op ≤ 10) (_k2 : (op == 2) = false) (_k2' : (op != 2) = true) (_k3 : (op == 3) = false) (_k4 : (op == 4) = false) (_k5 : (op == 5) = false) (_k7 : (op == 7) = false) (_k7' : (op != 7) = true) (_h : (n != 0) = false) (_hN : ¬ (0 : Int) < (ln : Int)) (_hA : (0 : Int) < (la : Int)) :
    Calls Tryd.prog 18 #[.agg #[.int .i64 op, .int .i64 n, .slice y ln s, .slice z la t]] w fun e w' => e = .returned (.int .i64 1) ∧ Below w.heap.size w w' := by
  go_enter Tryd.func18, Tryd.ntmps18
  go_wp2_with fail
  go_ret
  exact ⟨rfl, (Below.refl _ w).alloc (Nat.le_refl _) _⟩

set_option maxHeartbeats 1000000 in
set_option maxRecDepth 100000 in
theorem mf_plain_ok {y z : Option Addr} {s t : Nat} (op : Int) (n : Int) (ln la : Nat) (w : World) (_hn : ln ≤ 8796093022208) (_ha : la ≤ 200000000000000) (_r1 : 1 ≤ op) (_r2 : op ≤ 10) (_k2 : (op == 2) = false) (_k2' : (op != 2) = true) (_k3 : (op == 3) = false) (_k4 : (op == 4) = false) (_k5 : (op == 5) = false) (_k7 : (op == 7) = false) (_k7' : (op != 7) = true) (_h : (n != 0) = false) (_g1 : ¬ n < 0) (_g2 : ¬ 65535 < n) (_hN : ¬ (0 : Int) < (ln : Int)) (_hA : ¬ (0 : Int) < (la : Int)) :
    Calls Tryd.prog 18 #[.agg #[.int .i64 op, .int .i64 n, .slice y ln s, .slice z la t]] w fun e w' => e = .returned (.int .i64 0) ∧ Below w.heap.size w w' := by
  go_enter Tryd.func18, Tryd.ntmps18
  go_wp2_with fail
  go_ret
  exact ⟨rfl, (Below.refl _ w).alloc (Nat.le_refl _) _⟩

set_option maxHeartbeats 1000000 in
set_option maxRecDepth 100000 in
theorem mf_below_n {y z : Option Addr} {s t : Nat} (n : Int) (ln la : Nat) (w : World) (_hn : ln ≤ 8796093022208) (_ha : la ≤ 200000000000000) (_h : (n != 0) = true) :
    Calls Tryd.prog 18 #[.agg #[.int .i64 2, .int .i64 n, .slice y ln s, .slice z la t]] w fun e w' => e = .returned (.int .i64 1) ∧ Below w.heap.size w w' := by
  go_enter Tryd.func18, Tryd.ntmps18
  go_wp2_with fail
  go_ret
  exact ⟨rfl, (Below.refl _ w).alloc (Nat.le_refl _) _⟩

set_option maxHeartbeats 1000000 in
set_option maxRecDepth 100000 in
theorem mf_below_A {y z : Option Addr} {s t : Nat} (n : Int) (ln la : Nat) (w : World) (_hn : ln ≤ 8796093022208) (_ha : la ≤ 200000000000000) (_h : (n != 0) = false) (_hA : (0 : Int) < (la : Int)) :
    Calls Tryd.prog 18 #[.agg #[.int .i64 2, .int .i64 n, .slice y ln s, .slice z la t]] w fun e w' => e = .returned (.int .i64 1) ∧ Below w.heap.size w w' := by
  go_enter Tryd.func18, Tryd.ntmps18
  go_wp2_with fail
  go_ret
  exact ⟨rfl, (Below.refl _ w).alloc (Nat.le_refl _) _⟩

set_option maxHeartbeats 1000000 in
set_option maxRecDepth 100000 in
theorem mf_below_ok {y z : Option Addr} {s t : Nat} (n : Int) (ln la : Nat) (w : World) (N : List ByteArray) (hS : Strs w y s N) (hl : N.length = ln) (_hn : ln ≤ 8796093022208) (_ha : la ≤ 200000000000000) (_h : (n != 0) = false) (_hA : ¬ (0 : Int) < (la : Int)) :
    Calls Tryd.prog 18 #[.agg #[.int .i64 2, .int .i64 n, .slice y ln s, .slice z la t]] w fun e w' => e = .returned (.int .i64 (Nm.checkN (N.map Nm.bs))) ∧ Below w.heap.size w w' := by
  have HF := hid (hS.below ((Below.refl w.heap.size w).alloc (Nat.le_refl _) (.cells #[.int .i64 2, .int .i64 n, .slice y ln s, .slice z la t] 44)))
  have HL := hid hl
  clear hS hl
  go_enter Tryd.func18, Tryd.ntmps18
  go_wp2_with fail
  refine (fault_at (Nm.checkN (N.map Nm.bs)) N _ HF.out HL.out rfl).mono ?_
  rintro e w1 ⟨rfl, rfl⟩
  go_wp2_with fail
  go_ret
  exact ⟨rfl, (Below.refl _ w).alloc (Nat.le_refl _) _⟩

set_option maxHeartbeats 1000000 in
set_option maxRecDepth 100000 in
theorem mf_type_N {y z : Option Addr} {s t : Nat} (n : Int) (ln la : Nat) (w : World) (_hn : ln ≤ 8796093022208) (_ha : la ≤ 200000000000000) (_hN : (0 : Int) < (ln : Int)) :
    Calls Tryd.prog 18 #[.agg #[.int .i64 3, .int .i64 n, .slice y ln s, .slice z la t]] w fun e w' => e = .returned (.int .i64 1) ∧ Below w.heap.size w w' := by
  go_enter Tryd.func18, Tryd.ntmps18
  go_wp2_with fail
  go_ret
  exact ⟨rfl, (Below.refl _ w).alloc (Nat.le_refl _) _⟩

set_option maxHeartbeats 1000000 in
set_option maxRecDepth 100000 in
theorem mf_type_A {y z : Option Addr} {s t : Nat} (n : Int) (ln la : Nat) (w : World) (_hn : ln ≤ 8796093022208) (_ha : la ≤ 200000000000000) (_hN : ¬ (0 : Int) < (ln : Int)) (_hA : (0 : Int) < (la : Int)) :
    Calls Tryd.prog 18 #[.agg #[.int .i64 3, .int .i64 n, .slice y ln s, .slice z la t]] w fun e w' => e = .returned (.int .i64 1) ∧ Below w.heap.size w w' := by
  go_enter Tryd.func18, Tryd.ntmps18
  go_wp2_with fail
  go_ret
  exact ⟨rfl, (Below.refl _ w).alloc (Nat.le_refl _) _⟩

set_option maxHeartbeats 1000000 in
set_option maxRecDepth 100000 in
theorem mf_type_low {y z : Option Addr} {s t : Nat} (n : Int) (ln la : Nat) (w : World) (_hn : ln ≤ 8796093022208) (_ha : la ≤ 200000000000000) (_hN : ¬ (0 : Int) < (ln : Int)) (_hA : ¬ (0 : Int) < (la : Int)) (_h : n < 0) :
    Calls Tryd.prog 18 #[.agg #[.int .i64 3, .int .i64 n, .slice y ln s, .slice z la t]] w fun e w' => e = .returned (.int .i64 6) ∧ Below w.heap.size w w' := by
  go_enter Tryd.func18, Tryd.ntmps18
  go_wp2_with fail
  go_ret
  exact ⟨rfl, (Below.refl _ w).alloc (Nat.le_refl _) _⟩

set_option maxHeartbeats 1000000 in
set_option maxRecDepth 100000 in
theorem mf_type_high {y z : Option Addr} {s t : Nat} (n : Int) (ln la : Nat) (w : World) (_hn : ln ≤ 8796093022208) (_ha : la ≤ 200000000000000) (_hN : ¬ (0 : Int) < (ln : Int)) (_hA : ¬ (0 : Int) < (la : Int)) (_h : ¬ n < 0) (_h2 : 65535 < n) :
    Calls Tryd.prog 18 #[.agg #[.int .i64 3, .int .i64 n, .slice y ln s, .slice z la t]] w fun e w' => e = .returned (.int .i64 6) ∧ Below w.heap.size w w' := by
  go_enter Tryd.func18, Tryd.ntmps18
  go_wp2_with fail
  go_ret
  exact ⟨rfl, (Below.refl _ w).alloc (Nat.le_refl _) _⟩

set_option maxHeartbeats 1000000 in
set_option maxRecDepth 100000 in
theorem mf_type_ok {y z : Option Addr} {s t : Nat} (n : Int) (ln la : Nat) (w : World) (_hn : ln ≤ 8796093022208) (_ha : la ≤ 200000000000000) (_hN : ¬ (0 : Int) < (ln : Int)) (_hA : ¬ (0 : Int) < (la : Int)) (_h : ¬ n < 0) (_h2 : ¬ 65535 < n) :
    Calls Tryd.prog 18 #[.agg #[.int .i64 3, .int .i64 n, .slice y ln s, .slice z la t]] w fun e w' => e = .returned (.int .i64 0) ∧ Below w.heap.size w w' := by
  go_enter Tryd.func18, Tryd.ntmps18
  go_wp2_with fail
  go_ret
  exact ⟨rfl, (Below.refl _ w).alloc (Nat.le_refl _) _⟩

set_option maxHeartbeats 1000000 in
set_option maxRecDepth 100000 in
theorem mf_class_N {y z : Option Addr} {s t : Nat} (n : Int) (ln la : Nat) (w : World) (_hn : ln ≤ 8796093022208) (_ha : la ≤ 200000000000000) (_hN : (0 : Int) < (ln : Int)) :
    Calls Tryd.prog 18 #[.agg #[.int .i64 4, .int .i64 n, .slice y ln s, .slice z la t]] w fun e w' => e = .returned (.int .i64 1) ∧ Below w.heap.size w w' := by
  go_enter Tryd.func18, Tryd.ntmps18
  go_wp2_with fail
  go_ret
  exact ⟨rfl, (Below.refl _ w).alloc (Nat.le_refl _) _⟩

set_option maxHeartbeats 1000000 in
set_option maxRecDepth 100000 in
theorem mf_class_A {y z : Option Addr} {s t : Nat} (n : Int) (ln la : Nat) (w : World) (_hn : ln ≤ 8796093022208) (_ha : la ≤ 200000000000000) (_hN : ¬ (0 : Int) < (ln : Int)) (_hA : (0 : Int) < (la : Int)) :
    Calls Tryd.prog 18 #[.agg #[.int .i64 4, .int .i64 n, .slice y ln s, .slice z la t]] w fun e w' => e = .returned (.int .i64 1) ∧ Below w.heap.size w w' := by
  go_enter Tryd.func18, Tryd.ntmps18
  go_wp2_with fail
  go_ret
  exact ⟨rfl, (Below.refl _ w).alloc (Nat.le_refl _) _⟩

set_option maxHeartbeats 1000000 in
set_option maxRecDepth 100000 in
theorem mf_class_low {y z : Option Addr} {s t : Nat} (n : Int) (ln la : Nat) (w : World) (_hn : ln ≤ 8796093022208) (_ha : la ≤ 200000000000000) (_hN : ¬ (0 : Int) < (ln : Int)) (_hA : ¬ (0 : Int) < (la : Int)) (_h : n < 0) :
    Calls Tryd.prog 18 #[.agg #[.int .i64 4, .int .i64 n, .slice y ln s, .slice z la t]] w fun e w' => e = .returned (.int .i64 6) ∧ Below w.heap.size w w' := by
  go_enter Tryd.func18, Tryd.ntmps18
  go_wp2_with fail
  go_ret
  exact ⟨rfl, (Below.refl _ w).alloc (Nat.le_refl _) _⟩

set_option maxHeartbeats 1000000 in
set_option maxRecDepth 100000 in
theorem mf_class_high {y z : Option Addr} {s t : Nat} (n : Int) (ln la : Nat) (w : World) (_hn : ln ≤ 8796093022208) (_ha : la ≤ 200000000000000) (_hN : ¬ (0 : Int) < (ln : Int)) (_hA : ¬ (0 : Int) < (la : Int)) (_h : ¬ n < 0) (_h2 : 65535 < n) :
    Calls Tryd.prog 18 #[.agg #[.int .i64 4, .int .i64 n, .slice y ln s, .slice z la t]] w fun e w' => e = .returned (.int .i64 6) ∧ Below w.heap.size w w' := by
  go_enter Tryd.func18, Tryd.ntmps18
  go_wp2_with fail
  go_ret
  exact ⟨rfl, (Below.refl _ w).alloc (Nat.le_refl _) _⟩

set_option maxHeartbeats 1000000 in
set_option maxRecDepth 100000 in
theorem mf_class_ok {y z : Option Addr} {s t : Nat} (n : Int) (ln la : Nat) (w : World) (_hn : ln ≤ 8796093022208) (_ha : la ≤ 200000000000000) (_hN : ¬ (0 : Int) < (ln : Int)) (_hA : ¬ (0 : Int) < (la : Int)) (_h : ¬ n < 0) (_h2 : ¬ 65535 < n) :
    Calls Tryd.prog 18 #[.agg #[.int .i64 4, .int .i64 n, .slice y ln s, .slice z la t]] w fun e w' => e = .returned (.int .i64 0) ∧ Below w.heap.size w w' := by
  go_enter Tryd.func18, Tryd.ntmps18
  go_wp2_with fail
  go_ret
  exact ⟨rfl, (Below.refl _ w).alloc (Nat.le_refl _) _⟩

set_option maxHeartbeats 1000000 in
set_option maxRecDepth 100000 in
theorem mf_op_N {y z : Option Addr} {s t : Nat} (n : Int) (ln la : Nat) (w : World) (_hn : ln ≤ 8796093022208) (_ha : la ≤ 200000000000000) (_hN : (0 : Int) < (ln : Int)) :
    Calls Tryd.prog 18 #[.agg #[.int .i64 5, .int .i64 n, .slice y ln s, .slice z la t]] w fun e w' => e = .returned (.int .i64 1) ∧ Below w.heap.size w w' := by
  go_enter Tryd.func18, Tryd.ntmps18
  go_wp2_with fail
  go_ret
  exact ⟨rfl, (Below.refl _ w).alloc (Nat.le_refl _) _⟩

set_option maxHeartbeats 1000000 in
set_option maxRecDepth 100000 in
theorem mf_op_A {y z : Option Addr} {s t : Nat} (n : Int) (ln la : Nat) (w : World) (_hn : ln ≤ 8796093022208) (_ha : la ≤ 200000000000000) (_hN : ¬ (0 : Int) < (ln : Int)) (_hA : (0 : Int) < (la : Int)) :
    Calls Tryd.prog 18 #[.agg #[.int .i64 5, .int .i64 n, .slice y ln s, .slice z la t]] w fun e w' => e = .returned (.int .i64 1) ∧ Below w.heap.size w w' := by
  go_enter Tryd.func18, Tryd.ntmps18
  go_wp2_with fail
  go_ret
  exact ⟨rfl, (Below.refl _ w).alloc (Nat.le_refl _) _⟩

set_option maxHeartbeats 1000000 in
set_option maxRecDepth 100000 in
theorem mf_op_low {y z : Option Addr} {s t : Nat} (n : Int) (ln la : Nat) (w : World) (_hn : ln ≤ 8796093022208) (_ha : la ≤ 200000000000000) (_hN : ¬ (0 : Int) < (ln : Int)) (_hA : ¬ (0 : Int) < (la : Int)) (_h : n < 0) :
    Calls Tryd.prog 18 #[.agg #[.int .i64 5, .int .i64 n, .slice y ln s, .slice z la t]] w fun e w' => e = .returned (.int .i64 6) ∧ Below w.heap.size w w' := by
  go_enter Tryd.func18, Tryd.ntmps18
  go_wp2_with fail
  go_ret
  exact ⟨rfl, (Below.refl _ w).alloc (Nat.le_refl _) _⟩

set_option maxHeartbeats 1000000 in
set_option maxRecDepth 100000 in
theorem mf_op_high {y z : Option Addr} {s t : Nat} (n : Int) (ln la : Nat) (w : World) (_hn : ln ≤ 8796093022208) (_ha : la ≤ 200000000000000) (_hN : ¬ (0 : Int) < (ln : Int)) (_hA : ¬ (0 : Int) < (la : Int)) (_h : ¬ n < 0) (_h2 : 15 < n) :
    Calls Tryd.prog 18 #[.agg #[.int .i64 5, .int .i64 n, .slice y ln s, .slice z la t]] w fun e w' => e = .returned (.int .i64 6) ∧ Below w.heap.size w w' := by
  go_enter Tryd.func18, Tryd.ntmps18
  go_wp2_with fail
  go_ret
  exact ⟨rfl, (Below.refl _ w).alloc (Nat.le_refl _) _⟩

set_option maxHeartbeats 1000000 in
set_option maxRecDepth 100000 in
theorem mf_op_ok {y z : Option Addr} {s t : Nat} (n : Int) (ln la : Nat) (w : World) (_hn : ln ≤ 8796093022208) (_ha : la ≤ 200000000000000) (_hN : ¬ (0 : Int) < (ln : Int)) (_hA : ¬ (0 : Int) < (la : Int)) (_h : ¬ n < 0) (_h2 : ¬ 15 < n) :
    Calls Tryd.prog 18 #[.agg #[.int .i64 5, .int .i64 n, .slice y ln s, .slice z la t]] w fun e w' => e = .returned (.int .i64 0) ∧ Below w.heap.size w w' := by
  go_enter Tryd.func18, Tryd.ntmps18
  go_wp2_with fail
  go_ret
  exact ⟨rfl, (Below.refl _ w).alloc (Nat.le_refl _) _⟩

set_option maxHeartbeats 1000000 in
set_option maxRecDepth 100000 in
theorem mf_from_N {y z : Option Addr} {s t : Nat} (n : Int) (ln la : Nat) (w : World) (_hn : ln ≤ 8796093022208) (_ha : la ≤ 200000000000000) (_hN : (0 : Int) < (ln : Int)) :
    Calls Tryd.prog 18 #[.agg #[.int .i64 7, .int .i64 n, .slice y ln s, .slice z la t]] w fun e w' => e = .returned (.int .i64 1) ∧ Below w.heap.size w w' := by
  go_enter Tryd.func18, Tryd.ntmps18
  go_wp2_with fail
  go_ret
  exact ⟨rfl, (Below.refl _ w).alloc (Nat.le_refl _) _⟩

set_option maxHeartbeats 1000000 in
set_option maxRecDepth 100000 in
theorem mf_from_A {y z : Option Addr} {s t : Nat} (n : Int) (ln la : Nat) (w : World) (_hn : ln ≤ 8796093022208) (_ha : la ≤ 200000000000000) (_hN : ¬ (0 : Int) < (ln : Int)) (_hA : (16 : Int) < (la : Int)) :
    Calls Tryd.prog 18 #[.agg #[.int .i64 7, .int .i64 n, .slice y ln s, .slice z la t]] w fun e w' => e = .returned (.int .i64 6) ∧ Below w.heap.size w w' := by
  go_enter Tryd.func18, Tryd.ntmps18
  go_wp2_with fail
  go_ret
  exact ⟨rfl, (Below.refl _ w).alloc (Nat.le_refl _) _⟩

set_option maxHeartbeats 1000000 in
set_option maxRecDepth 100000 in
theorem mf_from_low {y z : Option Addr} {s t : Nat} (n : Int) (ln la : Nat) (w : World) (_hn : ln ≤ 8796093022208) (_ha : la ≤ 200000000000000) (_hN : ¬ (0 : Int) < (ln : Int)) (_hA : ¬ (16 : Int) < (la : Int)) (_h : n < 0) :
    Calls Tryd.prog 18 #[.agg #[.int .i64 7, .int .i64 n, .slice y ln s, .slice z la t]] w fun e w' => e = .returned (.int .i64 6) ∧ Below w.heap.size w w' := by
  go_enter Tryd.func18, Tryd.ntmps18
  go_wp2_with fail
  go_ret
  exact ⟨rfl, (Below.refl _ w).alloc (Nat.le_refl _) _⟩

set_option maxHeartbeats 1000000 in
set_option maxRecDepth 100000 in
theorem mf_from_high {y z : Option Addr} {s t : Nat} (n : Int) (ln la : Nat) (w : World) (_hn : ln ≤ 8796093022208) (_ha : la ≤ 200000000000000) (_hN : ¬ (0 : Int) < (ln : Int)) (_hA : ¬ (16 : Int) < (la : Int)) (_h : ¬ n < 0) (_h2 : 8 * (la : Int) < n) :
    Calls Tryd.prog 18 #[.agg #[.int .i64 7, .int .i64 n, .slice y ln s, .slice z la t]] w fun e w' => e = .returned (.int .i64 6) ∧ Below w.heap.size w w' := by
  go_enter Tryd.func18, Tryd.ntmps18
  go_wp2_with fail
  go_ret
  exact ⟨rfl, (Below.refl _ w).alloc (Nat.le_refl _) _⟩

set_option maxHeartbeats 1000000 in
set_option maxRecDepth 100000 in
theorem mf_from_ok {y z : Option Addr} {s t : Nat} (n : Int) (ln la : Nat) (w : World) (_hn : ln ≤ 8796093022208) (_ha : la ≤ 200000000000000) (_hN : ¬ (0 : Int) < (ln : Int)) (_hA : ¬ (16 : Int) < (la : Int)) (_h : ¬ n < 0) (_h2 : ¬ 8 * (la : Int) < n) :
    Calls Tryd.prog 18 #[.agg #[.int .i64 7, .int .i64 n, .slice y ln s, .slice z la t]] w fun e w' => e = .returned (.int .i64 0) ∧ Below w.heap.size w w' := by
  go_enter Tryd.func18, Tryd.ntmps18
  go_wp2_with fail
  go_ret
  exact ⟨rfl, (Below.refl _ w).alloc (Nat.le_refl _) _⟩

theorem mfault_at {y z : Option Addr} {s t : Nat} (k : Int) (m : Mt) (w : World) (hS : Strs w y s m.N) (hB : Bys w z t m.A) (hk : matchE m = k) :
    Calls Tryd.prog 18 #[.agg #[.int .i64 m.op, .int .i64 m.n, .slice y m.N.length s, .slice z m.A.length t]] w fun e w' => e = .returned (.int .i64 k) ∧ Below w.heap.size w w' := by
  subst hk
  obtain ⟨op, n, N, A⟩ := m
  simp only at hS hB ⊢
  have hn : N.length ≤ 8796093022208 := hS.2.1
  have ha : A.length ≤ 200000000000000 := hB.2.1
  unfold matchE
  simp only
  by_cases c1 : op < 1
  · rw [if_pos (by omega)]; exact mf_low op n _ _ w hn ha c1
  by_cases c2 : 10 < op
  · rw [if_pos (by omega)]; exact mf_high op n _ _ w hn ha (by omega) c2
  rw [if_neg (by omega)]
  by_cases c3 : op = 2
  · subst c3
    by_cases d1 : n = 0
    · have e : (n != 0) = false := by simp [d1]
      by_cases d2 : 0 < A.length
      · rw [if_pos (by omega)]; exact mf_below_A n _ _ w hn ha e (by omega)
      · rw [if_neg (by omega), if_pos rfl]; exact mf_below_ok n _ _ w N hS rfl hn ha e (by omega)
    · rw [if_pos (by omega)]; exact mf_below_n n _ _ w hn ha (by simpa using d1)
  have q3 : ¬ op = 2 := c3
  by_cases c4 : op = 3
  · subst c4
    by_cases d1 : 0 < N.length
    · rw [if_pos (by omega)]; exact mf_type_N n _ _ w hn ha (by omega)
    by_cases d2 : 0 < A.length
    · rw [if_pos (by omega)]; exact mf_type_A n _ _ w hn ha (by omega) (by omega)
    rw [if_neg (by omega), if_neg (by omega), if_neg (by omega), show mostN 3 A.length = 65535 from rfl]
    by_cases d3 : n < 0
    · rw [if_pos (by omega)]; exact mf_type_low n _ _ w hn ha (by omega) (by omega) d3
    by_cases d4 : 65535 < n
    · rw [if_pos (by omega)]; exact mf_type_high n _ _ w hn ha (by omega) (by omega) d3 d4
    · rw [if_neg (by omega)]; exact mf_type_ok n _ _ w hn ha (by omega) (by omega) d3 d4
  by_cases c5 : op = 4
  · subst c5
    by_cases d1 : 0 < N.length
    · rw [if_pos (by omega)]; exact mf_class_N n _ _ w hn ha (by omega)
    by_cases d2 : 0 < A.length
    · rw [if_pos (by omega)]; exact mf_class_A n _ _ w hn ha (by omega) (by omega)
    rw [if_neg (by omega), if_neg (by omega), if_neg (by omega), show mostN 4 A.length = 65535 from rfl]
    by_cases d3 : n < 0
    · rw [if_pos (by omega)]; exact mf_class_low n _ _ w hn ha (by omega) (by omega) d3
    by_cases d4 : 65535 < n
    · rw [if_pos (by omega)]; exact mf_class_high n _ _ w hn ha (by omega) (by omega) d3 d4
    · rw [if_neg (by omega)]; exact mf_class_ok n _ _ w hn ha (by omega) (by omega) d3 d4
  by_cases c6 : op = 5
  · subst c6
    by_cases d1 : 0 < N.length
    · rw [if_pos (by omega)]; exact mf_op_N n _ _ w hn ha (by omega)
    by_cases d2 : 0 < A.length
    · rw [if_pos (by omega)]; exact mf_op_A n _ _ w hn ha (by omega) (by omega)
    rw [if_neg (by omega), if_neg (by omega), if_neg (by omega), show mostN 5 A.length = 15 from rfl]
    by_cases d3 : n < 0
    · rw [if_pos (by omega)]; exact mf_op_low n _ _ w hn ha (by omega) (by omega) d3
    by_cases d4 : 15 < n
    · rw [if_pos (by omega)]; exact mf_op_high n _ _ w hn ha (by omega) (by omega) d3 d4
    · rw [if_neg (by omega)]; exact mf_op_ok n _ _ w hn ha (by omega) (by omega) d3 d4
  by_cases c7 : op = 7
  · subst c7
    by_cases d1 : 0 < N.length
    · rw [if_pos (by omega)]; exact mf_from_N n _ _ w hn ha (by omega)
    rw [if_neg (by omega), if_neg (by omega)]
    by_cases d2 : 16 < A.length
    · rw [if_pos (by omega)]; exact mf_from_A n _ _ w hn ha (by omega) (by omega)
    rw [if_neg (by omega), show mostN 7 A.length = 8 * (A.length : Int) from rfl]
    by_cases d3 : n < 0
    · rw [if_pos (by omega)]; exact mf_from_low n _ _ w hn ha (by omega) (by omega) d3
    by_cases d4 : 8 * (A.length : Int) < n
    · rw [if_pos (by omega)]; exact mf_from_high n _ _ w hn ha (by omega) (by omega) d3 d4
    · rw [if_neg (by omega)]; exact mf_from_ok n _ _ w hn ha (by omega) (by omega) d3 d4
  have b2 : (op == 2) = false := by simpa using c3
  have b3 : (op == 3) = false := by simpa using c4
  have b4 : (op == 4) = false := by simpa using c5
  have b5 : (op == 5) = false := by simpa using c6
  have b7 : (op == 7) = false := by simpa using c7
  have g2 : (op != 2) = true := by simpa using c3
  have g7 : (op != 7) = true := by simpa using c7
  by_cases d1 : n = 0
  · have e : (n != 0) = false := by simp [d1]
    by_cases d2 : 0 < N.length
    · rw [if_pos (by omega)]; exact mf_plain_N op n _ _ w hn ha (by omega) (by omega) b2 g2 b3 b4 b5 b7 g7 e (by omega)
    by_cases d3 : 0 < A.length
    · rw [if_pos (by omega)]; exact mf_plain_A op n _ _ w hn ha (by omega) (by omega) b2 g2 b3 b4 b5 b7 g7 e (by omega) (by omega)
    have e2 : mostN op A.length = 65535 := by unfold mostN; rw [if_neg c7, if_neg c6]
    rw [if_neg (by omega), if_neg (by omega), if_neg (by omega), e2, if_neg (by omega)]
    exact mf_plain_ok op n _ _ w hn ha (by omega) (by omega) b2 g2 b3 b4 b5 b7 g7 e (by omega) (by omega) (by omega) (by omega)
  · rw [if_pos (by omega)]; exact mf_plain_n op n _ _ w hn ha (by omega) (by omega) b2 g2 b3 b4 b5 b7 g7 (by simpa using d1)

end Go.Proofs.YtnbabdfcamdapaaDoor.Ru

namespace Go.Proofs.YtnbabdfcamdapaaDoor.Ru
open Go.RowKit Go.Deep

theorem Mats.here {w : World} {x : Option Addr} {c : Nat} {ms : List Mt} (h : Mats w x c ms) {i : Nat} (hi : i < ms.length) : ∃ b off, x = some ⟨b, off, none⟩ ∧ b < w.heap.size ∧ MCell w b (off + i * 4) ms[i] := by
  rcases h.2.2.2 with q | ⟨b, off, e, hb, q⟩
  · rw [q] at hi; simp at hi
  · exact ⟨b, off, e, hb, q i hi⟩

theorem firstE_at {r : List Mt} {i : Nat} (hi : i < r.length) : firstE (r.drop i) = if ¬ matchE r[i] = 0 then matchE r[i] else firstE (r.drop (i + 1)) := by
  rw [List.drop_eq_getElem_cons hi]
  rfl

theorem cntN_at {r : List Mt} {i k : Nat} (hi : i < r.length) : cntN k (r.drop i) = if k < takes r[i].op then none else cntN (k + 1 - takes r[i].op) (r.drop (i + 1)) := by
  rw [List.drop_eq_getElem_cons hi]
  rfl

set_option maxHeartbeats 2000000 in
set_option maxRecDepth 100000 in
theorem rfault_at {x : Option Addr} {c l : Nat} (k : Int) (r : List Mt) (w : World) (h : Mats w x c r) (hl : r.length = l) (hk : ruleE r = k) :
    Calls Tryd.prog 11 #[.slice x l c] w fun e w' => e = .returned (.int .i64 k) ∧ Below w.heap.size w w' := by
  subst hl
  have hlen : r.length ≤ 4000000000000 := h.2.1
  have HH := hid h
  have HK := hid hk
  clear h hk
  by_cases c1 : 200 < r.length
  · have HE : Hid (k = 7) := hid (by rw [← HK.out]; unfold ruleE; rw [if_pos c1])
    have c1' : (200 : Int) < (r.length : Int) := by omega
    go_enter Tryd.func11, Tryd.ntmps11
    go_wp2_with fail
    go_ret
    exact ⟨by rw [HE.out]; rfl, Below.refl _ _⟩
  have c1' : ¬ (200 : Int) < (r.length : Int) := by omega
  have HE : Hid (k = if ¬ firstE r = 0 then firstE r else if cntN 0 r = some 1 then 0 else 1) := hid (by rw [← HK.out]; unfold ruleE; rw [if_neg c1])
  clear HK
  go_enter Tryd.func11, Tryd.ntmps11
  go_wp2_with fail
  go_loopw [3] (fun vi wr => ∃ i : Nat, i ≤ r.length ∧ vi = .int .i64 (i : Int) ∧ firstE r = firstE (r.drop i) ∧ Below w.heap.size w wr) (fun vi _ => r.length - (intOf vi).toNat)
  case atStart => exact ⟨0, Nat.zero_le _, rfl, rfl, Below.refl _ _⟩
  case round =>
    obtain ⟨i, hi, rfl, hf, hb⟩ := hrel
    have FF := hid hf
    have BB := hid hb
    clear hf hb
    by_cases ci : i < r.length
    · have ci' : (i : Int) < (r.length : Int) := by omega
      obtain ⟨b, off, rfl, hbl, y, s, z, t, k0, k1, k2, k3, hS, hB, _⟩ := (HH.out.below BB.out).here ci
      have F2 := FF.out.trans (firstE_at ci)
      have SS := hid hS
      have DD := hid hB
      have CC := hid (fun k' (hk' : matchE r[i] = k') => mfault_at k' r[i] wr hS hB hk')
      obtain ⟨e, he⟩ : ∃ e, matchE r[i] = e := ⟨_, rfl⟩
      rw [he] at F2
      have C2 := hid (CC.out e he)
      have F3 := hid F2
      clear F2 he CC SS DD hS hB
      generalize r[i] = m at *
      by_cases h0 : e = 0
      · subst h0
        have F4 := F3.out
        rw [if_neg (by decide)] at F4
        have F5 := hid F4
        clear F4
        go_wp2_with fail
        refine C2.out.mono ?_
        rintro e w1 ⟨rfl, q⟩
        have B1 := hid (grown_on BB.out q)
        clear q k0 k1 k2 k3
        go_wp2_with fail
        exact ⟨⟨i + 1, by omega, by go_num, F5.out, B1.out⟩, by simp [intOf]; omega⟩
      · have F4 := F3.out
        rw [if_pos h0] at F4
        have F5 : Hid (k = e) := hid (by rw [HE.out, F4, if_pos h0])
        clear F4 F3
        go_wp2_with fail
        refine C2.out.mono ?_
        rintro e w1 ⟨rfl, q⟩
        have B1 := hid (grown_on BB.out q)
        clear q k0 k1 k2 k3
        go_wp2_with fail
        go_ret
        exact ⟨by rw [F5.out]; rfl, B1.out⟩
    · have ci' : ¬ (i : Int) < (r.length : Int) := by omega
      have F0 : Hid (k = if cntN 0 r = some 1 then 0 else 1) := hid (by
        have e := FF.out
        rw [List.drop_eq_nil_of_le (by omega)] at e
        rw [HE.out, if_neg (by rw [e]; decide)])
      clear HE FF
      go_wp2_with fail
      go_loopw [5, 6] (fun vh vj w2 => ∃ j h : Nat, j ≤ r.length ∧ h ≤ j ∧ vj = .int .i64 (j : Int) ∧ vh = .int .i64 (h : Int) ∧ cntN 0 r = cntN h (r.drop j) ∧ Below w.heap.size w w2) (fun _ vj _ => r.length - (intOf vj).toNat)
      case atStart => exact ⟨0, 0, Nat.zero_le _, Nat.le_refl _, rfl, rfl, rfl, BB.out⟩
      case round =>
        clear BB
        obtain ⟨j, n, hj, hn, rfl, rfl, hc, hb⟩ := hrel
        have CN := hid hc
        have BB := hid hb
        clear hc hb
        by_cases cj : j < r.length
        · have cj' : (j : Int) < (r.length : Int) := by omega
          obtain ⟨b, off, rfl, hbl, y, s, z, t, k0, _⟩ := (HH.out.below BB.out).here cj
          have F2 := hid (CN.out.trans (cntN_at cj))
          obtain ⟨tk, htk⟩ : ∃ tk, takes r[j].op = tk := ⟨_, rfl⟩
          have htk2 : tk ≤ 2 := by rcases takes_cases r[j].op with q | q | q <;> omega
          have F3 := F2.out
          rw [htk] at F3
          have TT := hid (takes_at r[j].op (tk : Int) wr (by rw [htk]))
          have F4 := hid F3
          clear F2 F3 htk
          generalize r[j].op = op at *
          by_cases hlt : n < tk
          · have F5 : Hid (k = 1) := hid (by
              have e := F4.out
              rw [if_pos hlt] at e
              rw [F0.out, if_neg (by rw [e]; simp)])
            clear F4
            have hlt' : (n : Int) < (tk : Int) := by omega
            go_wp2_with fail
            refine TT.out.mono ?_
            rintro e w1 ⟨rfl, rfl⟩
            go_wp2_with fail
            go_ret
            exact ⟨by rw [F5.out]; rfl, BB.out⟩
          · have F5 : Hid (cntN 0 r = cntN (n + 1 - tk) (r.drop (j + 1))) := hid (by
              have e := F4.out
              rwa [if_neg hlt] at e)
            clear F4
            have hlt' : ¬ (n : Int) < (tk : Int) := by omega
            go_wp2_with fail
            refine TT.out.mono ?_
            rintro e w1 ⟨rfl, rfl⟩
            go_wp2_with fail
            exact ⟨⟨j + 1, n + 1 - tk, by omega, by omega, by go_num, by go_num, F5.out, BB.out⟩, by simp [intOf]; omega⟩
        · have cj' : ¬ (j : Int) < (r.length : Int) := by omega
          have e := CN.out
          rw [List.drop_eq_nil_of_le (by omega)] at e
          have e2 : cntN 0 r = some n := e
          clear e CN
          by_cases h1 : n = 1
          · subst h1
            have F5 : Hid (k = 0) := hid (by rw [F0.out, if_pos e2])
            clear e2
            go_wp2_with fail
            go_ret
            exact ⟨by rw [F5.out]; rfl, BB.out⟩
          · have F5 : Hid (k = 1) := hid (by rw [F0.out, if_neg (by rw [e2]; simpa using h1)])
            have h2 : ((n : Int) != 1) = true := by simp; omega
            clear e2 h1
            go_wp2_with fail
            go_ret
            exact ⟨by rw [F5.out]; rfl, BB.out⟩

end Go.Proofs.YtnbabdfcamdapaaDoor.Ru

namespace Go.Proofs.YtnbabdfcamdapaaDoor.Ru
open Go.RowKit Go.Deep

def top : T → Mt
  | .leaf m => m
  | .one m _ => m
  | .two m _ _ => m

def kids : T → List T
  | .leaf _ => []
  | .one _ t => [t]
  | .two _ a b => [b, a]

theorem flats_kids (t : T) (s : List T) : flats (t :: s) = flats (kids t ++ s) ++ [top t] := by
  cases t <;> simp [flats, kids, top, flat]

theorem kids_wf {t : T} (h : wf t) : (∀ u ∈ kids t, wf u) ∧ takes (top t).op = (kids t).length := by
  cases t with
  | leaf m => exact ⟨fun u hu => by simp [kids] at hu, h⟩
  | one m t => exact ⟨fun u hu => by simp only [kids, List.mem_singleton] at hu; rw [hu]; exact h.2, h.1⟩
  | two m a b =>
    refine ⟨fun u hu => ?_, h.1⟩
    simp only [kids, List.mem_cons, List.not_mem_nil, or_false] at hu
    rcases hu with rfl | rfl
    · exact h.2.2
    · exact h.2.1

theorem flats_pos {t : T} {s : List T} : s.length + 1 ≤ (flats (t :: s)).length := by
  induction s generalizing t with
  | nil => rw [flats_cons]; have := flat_pos t; simp [flats]; omega
  | cons u s ih => rw [flats_cons, List.length_append]; have := flat_pos t; have := ih (t := u); simp only [List.length_cons]; omega

set_option maxHeartbeats 2000000 in
set_option maxRecDepth 100000 in
theorem ahead_at {x : Option Addr} {c l : Nat} (pre post : List Mt) (t : T) (k : Nat) (w : World) (h : Mats w x c (pre ++ flat t ++ post)) (hl : (pre ++ flat t ++ post).length = l) (ht : wf t) (hk : pre.length + (flat t).length = k + 1) :
    Calls Tryd.prog 24 #[.slice x l c, .int .i64 (k : Int)] w fun e w' => e = .returned (.int .i64 (pre.length : Int)) ∧ w = w' := by
  have hlen := h.2.1
  obtain ⟨r, hr⟩ : ∃ r, pre ++ flat t ++ post = r := ⟨_, rfl⟩
  rw [hr] at h hl hlen
  have h0 : (0 : Nat) < r.length := by rw [← hr]; have := flat_pos t; simp; omega
  have hkl : k < r.length := by rw [← hr]; have := flat_pos t; simp; omega
  have HH := hid h
  have HR := hid hr
  have HL := hid hl
  clear hl
  obtain ⟨b, off, rfl, hb, _⟩ := h.here h0
  have HQ := hid (fun i (hi : i < r.length) => by
    obtain ⟨b', off', e, _, y, s, z, t, q, _⟩ := HH.out.here hi
    cases e
    exact q)
  clear h hr
  go_enter Tryd.func24, Tryd.ntmps24
  go_wp2_with fail
  go_loopw [1, 5] (fun va vn wr => ∃ (a : Nat) (s : List T) (q : List Mt), va = .int .i64 (a : Int) ∧ vn = .int .i64 (s.length : Int) ∧ 0 < s.length ∧ (∀ u ∈ s, wf u) ∧ pre ++ flats s ++ q = r ∧ pre.length + (flats s).length = a + 1 ∧ s.length ≤ r.length ∧ a < r.length ∧ wr = w) (fun va _ _ => (intOf va).toNat)
  case atStart => exact ⟨k, [t], post, rfl, rfl, by simp, fun u hu => by rw [List.mem_singleton.1 hu]; exact ht, by rw [← HR.out]; simp [flats], by simp [flats]; exact hk, by simp; omega, hkl, by trivial⟩
  case round =>
    obtain ⟨a, s, q, rfl, rfl, hs, hw, he, hp, hsl, ha, rfl⟩ := hrel
    cases s with
    | nil => simp at hs
    | cons u s =>
      have HU := kids_wf (hw u List.mem_cons_self)
      have e1 := flats_kids u s
      have hlen2 : a = pre.length + (flats (kids u ++ s)).length := by rw [e1, List.length_append, List.length_singleton] at hp; omega
      have hget : r[a]'ha = top u := by
        have q1 : r[a]? = some (top u) := by
          rw [← he, e1, List.append_assoc, List.append_assoc, List.getElem?_append_right (by omega), List.getElem?_append_right (by omega)]
          rw [show a - pre.length - (flats (kids u ++ s)).length = 0 by omega]
          rfl
        rw [List.getElem?_eq_getElem ha] at q1
        exact Option.some.inj q1
      have c0 := HQ.out a ha
      rw [hget] at c0
      obtain ⟨n, hn⟩ : ∃ n, (kids u).length = n := ⟨_, rfl⟩
      have hn2 : n ≤ 2 := by rw [← hn]; cases u <;> simp [kids]
      have TT := hid (takes_at (top u).op (n : Int) wr (by rw [HU.2, hn]))
      have NX : Hid (pre ++ flats (kids u ++ s) ++ (top u :: q) = r) := hid (by rw [← he, e1]; simp)
      have KW : Hid (∀ v ∈ kids u ++ s, wf v) := hid (fun v hv => by
        rcases List.mem_append.1 hv with hv | hv
        · exact HU.1 v hv
        · exact hw v (List.mem_cons_of_mem _ hv))
      have KL : Hid ((kids u ++ s).length = n + s.length) := hid (by rw [List.length_append, hn])
      have HA := hid hlen2
      clear hw he hp e1 hget HU hn hlen2
      generalize (top u).op = op at *
      generalize top u = m at *
      generalize kids u ++ s = s2 at *
      have ha' : (a : Int) < (l : Int) := by have := HL.out; omega
      obtain ⟨sn, hsn⟩ : ∃ sn, (u :: s).length = sn := ⟨_, rfl⟩
      rw [hsn] at hsl ⊢
      have hsn2 : sn = s.length + 1 := by rw [← hsn]; rfl
      clear hsn hs
      by_cases hz : n + s.length = 0
      · have hz' : ((sn : Int) + ((n : Int) - 1) == 0) = true := by simp; omega
        have HE : Hid (a = pre.length) := hid (by
          have e := KL.out
          have e2 := HA.out
          rw [hz] at e
          rw [List.length_eq_zero_iff.1 e] at e2
          simpa [flats] using e2)
        go_wp2_with fail
        refine TT.out.mono ?_
        rintro e w1 ⟨rfl, rfl⟩
        go_wp2_with fail
        go_ret
        exact ⟨by rw [HE.out]; rfl, rfl⟩
      · have hz' : ((sn : Int) + ((n : Int) - 1) == 0) = false := by simp; omega
        have hpos : Hid (s2.length ≤ (flats s2).length) := hid (by
          cases s2 with
          | nil => simp
          | cons v s3 => exact flats_pos)
        have hll : Hid ((flats s2).length ≤ r.length) := hid (by rw [← NX.out]; simp; omega)
        have h1 : 0 < (flats s2).length := by have := hpos.out; have := KL.out; omega
        have h2 : 1 ≤ a := by have := HA.out; omega
        go_wp2_with fail
        refine TT.out.mono ?_
        rintro e w1 ⟨rfl, rfl⟩
        go_wp2_with fail
        refine ⟨⟨a - 1, s2, m :: q, by go_num, ?_, by rw [KL.out]; omega, KW.out, NX.out, by have := HA.out; omega, by have := hpos.out; have := hll.out; omega, by omega, by trivial⟩, by simp [intOf]; omega⟩
        rw [KL.out]
        go_num

end Go.Proofs.YtnbabdfcamdapaaDoor.Ru
