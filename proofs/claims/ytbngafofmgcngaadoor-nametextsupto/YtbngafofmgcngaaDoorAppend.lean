/-
  The walk of appendByte: a row of bytes that the caller owns is longer by what a byte of a label is in a text; nothing else has turned.
-/
import Derived.Test.YtbngafofmgcngaaDoorCheck
import Derived.Test.YtbngafofmgcngaaDoorFold
import Derived.Deep.Slices
namespace Go.Proofs.YtbngafofmgcngaaDoor
open Go.RowKit Go.Deep

/-- A slice of bytes of the call's own. -/
def Rowb (w : World) (B : Nat) (v : Value) (xs : List Int) : Prop := w.ownsRow B 5 1 v xs.length (xs.map (Value.int .u8))

theorem Rowb.of {w : World} {B n : Nat} {v : Value} {xs : List Int} {ys : List Value} (h : w.ownsRow B 5 1 v n ys) (hn : n = xs.length) (hy : ys = xs.map (Value.int .u8)) : Rowb w B v xs := by
  subst hn hy; exact h

theorem cells_new (w : World) (cs : List Value) (t : TypeId) : ∀ j u, cs[j]? = some u → (w.alloc (.cells cs.toArray t)).cell? ((⟨w.heap.size, 0, none⟩ : Addr).add j) = some u := by
  intro j u h
  rw [Go.WideShapes.add_plain, Nat.zero_add, World.cell?_alloc_at _ _ _ _ rfl]
  simpa using h

theorem grown_alloc {w w' : World} {o : Obj} {r : Option Nat} (h : (w.alloc o).grownBy w' r) : w.grownBy w' r :=
  ⟨h.os, h.tape, h.output, by have := h.size; simp at this; omega, fun k hk hr => by rw [h.block k (by simp; omega) hr]; exact Below.heap_alloc w o k hk⟩

theorem one_cells (xs : List Int) : ∀ u ∈ xs.map (Value.int .u8), u.oneCell' = true := by
  intro u hu
  obtain ⟨n, _, rfl⟩ := List.mem_map.1 hu
  rfl

set_option maxHeartbeats 400000 in
theorem appendByte_any (B : Nat) (v : Value) (xs : List Int) (c : Int) (w : World) (hown : Rowb w B v xs) (h0 : 0 ≤ c) (h1 : c ≤ 255) (hl : xs.length ≤ 100000) (hB : B ≤ w.heap.size) :
    Calls Tryd.prog 27 #[v, .int .u8 c] w fun e w' => ∃ v', e = .returned v' ∧ Rowb w' B v' (xs ++ Nm.esc c) ∧ w.grownBy w' v.ownBlock := by
  obtain ⟨i0, hi, hz0, hz1, hz2⟩ := info_parts info_byte
  unfold Rowb at hown
  by_cases a : c = 46 ∨ c = 92
  · have e : Nm.esc c = [92, c] := by unfold Nm.esc; rw [if_pos a]
    rw [e]
    clear e
    have ht : (c == 46) = true ∨ ((c == 46) = false ∧ (c == 92) = true) := by
      rcases a with a | a
      · left; simp [a]
      · right; simp [a]
    clear a
    rcases ht with t1 | ⟨t1, t2⟩
    all_goals
      go_enter Tryd.func27, Tryd.ntmps27
      go_wp2_with (at_builtin; refine wpList_append_own _ rfl _ _ 42 rfl B 5 i0 (.int .u8 0) 1 1 Tryd.underlying42 hi hz0 hz1 hz2 rfl (by decide) _ _ _ rfl (hown.alloc _) ⟨w.heap.size, 0, none⟩ 2 2 [.int .u8 92, .int .u8 c] rfl rfl (cells_new w [.int .u8 92, .int .u8 c] 5) (one_cells [92, c]) (by unfold maxLen; omega) (by omega) (by simp; omega) ?_)
      intro v' w1 hown' hgrow _
      go_wp2
      go_ret
      exact ⟨v', rfl, Rowb.of hown' (by simp) (by simp), grown_alloc hgrow⟩
  · have t1 : (c == 46) = false := beq_eq_false_iff_ne.2 (by omega)
    have t2 : (c == 92) = false := beq_eq_false_iff_ne.2 (by omega)
    by_cases b : c < 33 ∨ 126 < c
    · have e : Nm.esc c = [92, 48 + c / 100, 48 + c / 10 % 10, 48 + c % 10] := by unfold Nm.esc; rw [if_neg a, if_pos b]
      rw [e]
      clear e a
      have ht : c < 33 ∨ (¬ c < 33 ∧ 126 < c) := by omega
      clear b
      rcases ht with t3 | ⟨t3, t4⟩
      all_goals
        go_enter Tryd.func27, Tryd.ntmps27
        go_wp2_with (at_builtin; refine wpList_append_own _ rfl _ _ 42 rfl B 5 i0 (.int .u8 0) 1 1 Tryd.underlying42 hi hz0 hz1 hz2 rfl (by decide) _ _ _ rfl (hown.alloc _) ⟨w.heap.size, 0, none⟩ 4 4 [.int .u8 92, .int .u8 (48 + c / 100), .int .u8 (48 + c / 10 % 10), .int .u8 (48 + c % 10)] rfl rfl (cells_new w [.int .u8 92, .int .u8 (48 + c / 100), .int .u8 (48 + c / 10 % 10), .int .u8 (48 + c % 10)] 5) (one_cells [92, 48 + c / 100, 48 + c / 10 % 10, 48 + c % 10]) (by unfold maxLen; omega) (by omega) (by simp; omega) ?_)
        intro v' w1 hown' hgrow _
        go_wp2
        go_ret
        exact ⟨v', rfl, Rowb.of hown' (by simp) (by simp), grown_alloc hgrow⟩
    · have e : Nm.esc c = [c] := by unfold Nm.esc; rw [if_neg a, if_neg b]
      rw [e]
      clear e a
      have t3 : ¬ c < 33 := by omega
      have t4 : ¬ 126 < c := by omega
      clear b
      go_enter Tryd.func27, Tryd.ntmps27
      go_wp2_with (at_builtin; refine wpList_append_own _ rfl _ _ 42 rfl B 5 i0 (.int .u8 0) 1 1 Tryd.underlying42 hi hz0 hz1 hz2 rfl (by decide) _ _ _ rfl (hown.alloc _) ⟨w.heap.size, 0, none⟩ 1 1 [.int .u8 c] rfl rfl (cells_new w [.int .u8 c] 5) (one_cells [c]) (by unfold maxLen; omega) (by omega) (by simp; omega) ?_)
      intro v' w1 hown' hgrow _
      go_wp2
      go_ret
      exact ⟨v', rfl, Rowb.of hown' (by simp) (by simp), grown_alloc hgrow⟩

end Go.Proofs.YtbngafofmgcngaaDoor
