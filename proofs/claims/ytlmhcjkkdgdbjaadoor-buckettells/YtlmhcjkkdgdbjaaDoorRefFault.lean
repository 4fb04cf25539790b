/-
  The walks of the document's own answers NameFault and Folded, and of Told and Error, by which errors are asked.
-/
import Derived.Test.YtlmhcjkkdgdbjaaDoorRefOrder
import Derived.Test.YtlmhcjkkdgdbjaaDoorWalkB
import Derived.Test.YtlmhcjkkdgdbjaaDoorAs
namespace Go.Proofs.YtlmhcjkkdgdbjaaDoor
open Go.RowKit Go.Deep

theorem ret_num {k j : Int} (h : k = j) : Ending.returned (.int .i64 j) = .returned (.int .i64 k) := by rw [h]

/-- A number that goes with the bytes so far, as long as they are not too many. -/
def Goes (z : Int) (t : Nat) : Prop := 1 ≤ z ∧ z ≤ 400 ∧ (z ≤ 255 → z = (t : Int) + 1) ∧ (255 < z → 254 < t)

theorem goes_zero : Goes 1 0 := ⟨by omega, by omega, fun _ => by omega, fun h => by omega⟩
theorem goes_next {z : Int} {t s : Nat} (h : Goes z t) (hz : z ≤ 255) (h1 : s ≤ 63) : Goes (z + ((s : Int) + 1)) (t + (s + 1)) := by
  obtain ⟨a, b, c, d⟩ := h
  have := c hz
  exact ⟨by omega, by omega, fun _ => by omega, fun _ => by omega⟩
theorem goes_stays {z : Int} {t s : Nat} (h : Goes z t) (hz : 255 < z) : Goes z (t + s) := by
  obtain ⟨a, b, c, d⟩ := h
  have := d hz
  exact ⟨a, b, fun q => by omega, fun _ => by omega⟩
theorem goes_long {z : Int} {t : Nat} (h : Goes z t) (hz : 255 < z) : 254 < t := h.2.2.2 hz
theorem goes_short {z : Int} {t : Nat} (h : Goes z t) (hz : z ≤ 255) : ¬ 254 < t := by have := h.2.2.1 hz; omega

theorem folded_next (s : ByteArray) (k : Nat) (h : k < s.size) : ((Nm.bs s).take k).map Nm.foI ++ [Nm.foI (s[k].toNat : Int)] = ((Nm.bs s).take (k + 1)).map Nm.foI := by
  rw [List.take_succ_eq_append_getElem (by rw [bs_length]; exact h), bs_get s k h, List.map_append]; rfl

theorem folded_len (s : ByteArray) (k : Nat) (h : k ≤ s.size) : (((Nm.bs s).take k).map Nm.foI).length = k := by
  rw [List.length_map, List.length_take, bs_length]; omega

theorem folded_all (s : ByteArray) (k : Nat) (h : s.size ≤ k) : ((Nm.bs s).take k).map Nm.foI = (Nm.bs s).map Nm.foI := by
  rw [List.take_of_length_le (by rw [bs_length]; exact h)]

/-- What the library keeps of the type of errors lies where it was laid. -/
def Glob (w : World) : Prop := w.cell? ⟨0, 0, none⟩ = some (.iface 57 (.agg #[.pointer (some ⟨1, 26, none⟩)]))

theorem Glob.pos {w : World} (h : Glob w) : 0 < w.heap.size := by
  rcases Nat.eq_zero_or_pos w.heap.size with h0 | h0
  · unfold Glob at h; simp [World.cell?, h0] at h
  · exact h0

theorem Glob.below {w w' : World} (h : Glob w) (k : Below w.heap.size w w') : Glob w' := by
  unfold Glob at *
  rw [k.cell (p := ⟨0, 0, none⟩) (Glob.pos h)]; exact h

set_option maxHeartbeats 400000 in
theorem told_any (k : Int) (w : World) (hg : Glob w) :
    Calls Tryd.prog 10 #[errV k] w fun e w' => e = .returned (.int .i64 k) ∧ Below w.heap.size w w' := by
  by_cases hk : k = 0
  · subst hk
    rw [errV_none]
    go_enter Tryd.func10, Tryd.ntmps10
    go_wp2
    go_ret
    exact ⟨rfl, Below.refl _ _⟩
  · rw [errV_some hk]
    clear hk
    have hp := hg.pos
    have b1 : Below w.heap.size w (w.alloc (.cells #[.int .i64 0] 28)) := (Below.refl _ _).alloc (Nat.le_refl _) _
    have g1 := hg.below b1
    have BB := hid b1
    clear b1
    go_enter Tryd.func10, Tryd.ntmps10
    go_wp2_with fail
    refine (as_hit k ⟨w.heap.size, 0, none⟩ (.int .i64 0) _ g1 (by simp) (by simp)).mono ?_
    rintro e w1 ⟨rfl, rfl⟩
    go_wp2_with fail
    go_ret
    refine ⟨rfl, ?_⟩
    repeat (first | exact Below.refl _ _ | refine Below.setCell ?_ (Nat.le_refl _) _ | refine Below.alloc ?_ (by simp <;> omega) _)

set_option maxHeartbeats 400000 in
theorem error_any (k j : Int) (w : World) (hg : Glob w) :
    Calls Tryd.prog 4 #[errV k, .int .i64 j] w fun e w' => e = .returned (.bool (k == j)) ∧ Below w.heap.size w w' := by
  go_enter Tryd.func4, Tryd.ntmps4
  go_wp2_with fail
  refine (told_any k _ hg).mono ?_
  rintro e w1 ⟨rfl, b1⟩
  go_wp2_with fail
  go_ret
  exact ⟨rfl, b1⟩

theorem error_at (k j : Int) (v : Value) (w : World) (hg : Glob w) (hv : errV k = v) (h : k = j) :
    Calls Tryd.prog 4 #[v, .int .i64 j] w fun e w' => e = .returned (.bool true) ∧ Below w.heap.size w w' := by
  subst hv h
  exact (error_any k k w hg).mono fun e w' ⟨a, b⟩ => ⟨by rw [a, beq_self_eq_true], b⟩

end Go.Proofs.YtlmhcjkkdgdbjaaDoor
