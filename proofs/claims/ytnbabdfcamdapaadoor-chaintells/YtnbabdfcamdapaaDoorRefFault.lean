/-
  The walks of the document's own answers NameFault and Folded, and of Told and Error, by which errors are asked.
-/
import Derived.Test.YtnbabdfcamdapaaDoorRefOrder
import Derived.Test.YtnbabdfcamdapaaDoorWalkB
import Derived.Test.YtnbabdfcamdapaaDoorAs
namespace Go.Proofs.YtnbabdfcamdapaaDoor
open Go.RowKit Go.Deep

theorem ret_num {k j : Int} (h : k = j) : Ending.returned (.int .i64 j) = .returned (.int .i64 k) := by rw [h]

/-- A number that goes with the bytes so far, as long as they are not too many. -/
def Goes (z : Int) (t : Nat) : Prop := 1 ≤ z ∧ z ≤ 400 ∧ (z ≤ 255 → z = (t : Int) + 1) ∧ (255 < z → 254 < t)

theorem goes_zero : Goes 1 0 := ⟨by omega, by omega, fun _ => by omega, fun h => by omega⟩
theorem goes_next {z : Int} {t s : Nat} (h : Goes z t) (hz : z ≤ 255) (h1 : s ≤ 63) : Goes (z + ((s : Int) + 1)) (t + (s + 1)) := by
  obtain ⟨a, b, c, d⟩ := h
  have := c hz
  exact ⟨by omega, by omega, fun _ => by omega, fun _ => by omega⟩
theorem goes_stays {z : Int} {t s : Nat} (h : Goes z t) (hz : 255 < z) : Goes z (t + s) := by
  obtain ⟨a, b, c, d⟩ := h
  have := d hz
  exact ⟨a, b, fun q => by omega, fun _ => by omega⟩
theorem goes_long {z : Int} {t : Nat} (h : Goes z t) (hz : 255 < z) : 254 < t := h.2.2.2 hz
theorem goes_short {z : Int} {t : Nat} (h : Goes z t) (hz : z ≤ 255) : ¬ 254 < t := by have := h.2.2.1 hz; omega

set_option maxHeartbeats 400000 in
theorem fault_any (x : Option Addr) (c : Nat) (n : List ByteArray) (w : World) (h : Strs w x c n) :
    Calls Tryd.prog 26 #[.slice x n.length c] w fun e w' => e = .returned (.int .i64 (Nm.checkN (n.map Nm.bs))) ∧ w = w' := by
  have hl : n.length ≤ 8796093022208 := h.2.1
  go_enter Tryd.func26, Tryd.ntmps26
  go_wp2
  go_loop [3, 4] (fun s i => ∃ (k t : Nat) (z : Int), k ≤ n.length ∧ s = .int .i64 z ∧ i = .int .i64 (k : Int) ∧ Fine n k t ∧ Goes z t) (fun _ i => n.length - (intOf i).toNat)
  case atStart => exact ⟨0, 0, 1, Nat.zero_le _, rfl, rfl, fine_zero n, goes_zero⟩
  case round =>
    obtain ⟨k, t, z, hk, rfl, rfl, hfine, hgo⟩ := hrel
    have b1 := hgo.1
    have b2 := hgo.2.1
    by_cases h1 : k < n.length
    · obtain ⟨_, _, sa, da⟩ := h
      rcases da with da | ⟨ba, oa, rfl, _, qa⟩
      · rw [da] at h1; simp at h1
      have fa := qa k (by omega)
      have E1 := hid (fine_next hfine h1)
      have E2 := hid (@check_bad n k h1)
      clear qa sa
      generalize n.getD k ByteArray.empty = s at *
      by_cases hs0 : s.size = 0
      · have hz : ((s.size : Int) == 0) = true := beq_iff_eq.2 (by omega)
        have E3 := hid (E2.out (Or.inl hs0))
        clear E1 E2 hs0
        go_wp2
        go_ret
        exact ⟨ret_num E3.out, rfl⟩
      · have hz : ((s.size : Int) == 0) = false := beq_eq_false_iff_ne.2 (by omega)
        by_cases hs1 : 63 < s.size
        · have hs2 : (63 : Int) < (s.size : Int) := by omega
          have E3 := hid (E2.out (Or.inr hs1))
          clear E1 E2
          go_wp2
          go_ret
          exact ⟨ret_num E3.out, rfl⟩
        · have hs2 : ¬ (63 : Int) < (s.size : Int) := by omega
          have hs3 : 1 ≤ s.size := by omega
          by_cases hz2 : z ≤ 255
          · have G := goes_next hgo hz2 (show s.size ≤ 63 by omega)
            clear hgo
            go_wp2
            exact ⟨⟨k + 1, t + (s.size + 1), z + ((s.size : Int) + 1), by omega, by go_num, by go_num, E1.out hs3 (by omega), G⟩, by simp [intOf]; omega⟩
          · have G := goes_stays (s := s.size + 1) hgo (by omega)
            clear hgo
            go_wp2
            exact ⟨⟨k + 1, t + (s.size + 1), z, by omega, rfl, by go_num, E1.out hs3 (by omega), G⟩, by simp [intOf]; omega⟩
    · have E := check_end hfine (by omega)
      by_cases hz2 : z ≤ 255
      · rw [if_neg (goes_short hgo hz2)] at E
        have E3 := hid E
        have i1 : ¬ (255 : Int) < z := by omega
        clear E hz2 hgo
        go_wp2
        go_ret
        exact ⟨ret_num E3.out, rfl⟩
      · rw [if_pos (goes_long hgo (by omega))] at E
        have E3 := hid E
        have i1 : (255 : Int) < z := by omega
        clear E hz2 hgo
        go_wp2
        go_ret
        exact ⟨ret_num E3.out, rfl⟩

theorem fault_at (r : Int) {x : Option Addr} {c l : Nat} (n : List ByteArray) (w : World) (h : Strs w x c n) (hl : n.length = l) (hr : Nm.checkN (n.map Nm.bs) = r) :
    Calls Tryd.prog 26 #[.slice x l c] w fun e w' => e = .returned (.int .i64 r) ∧ w = w' := by
  subst hl hr; exact fault_any x c n w h

theorem folded_next (s : ByteArray) (k : Nat) (h : k < s.size) : ((Nm.bs s).take k).map Nm.foI ++ [Nm.foI (s[k].toNat : Int)] = ((Nm.bs s).take (k + 1)).map Nm.foI := by
  rw [List.take_succ_eq_append_getElem (by rw [bs_length]; exact h), bs_get s k h, List.map_append]; rfl

theorem folded_len (s : ByteArray) (k : Nat) (h : k ≤ s.size) : (((Nm.bs s).take k).map Nm.foI).length = k := by
  rw [List.length_map, List.length_take, bs_length]; omega

theorem folded_all (s : ByteArray) (k : Nat) (h : s.size ≤ k) : ((Nm.bs s).take k).map Nm.foI = (Nm.bs s).map Nm.foI := by
  rw [List.take_of_length_le (by rw [bs_length]; exact h)]

/-- What the library keeps of the type of errors lies where it was laid. -/
def Glob (w : World) : Prop := w.cell? ⟨0, 0, none⟩ = some (.iface 87 (.agg #[.pointer (some ⟨1, 32, none⟩)]))

theorem Glob.pos {w : World} (h : Glob w) : 0 < w.heap.size := by
  rcases Nat.eq_zero_or_pos w.heap.size with h0 | h0
  · unfold Glob at h; simp [World.cell?, h0] at h
  · exact h0

theorem Glob.below {w w' : World} (h : Glob w) (k : Below w.heap.size w w') : Glob w' := by
  unfold Glob at *
  rw [k.cell (p := ⟨0, 0, none⟩) (Glob.pos h)]; exact h

set_option maxHeartbeats 400000 in
theorem told_any (k : Int) (w : World) (hg : Glob w) :
    Calls Tryd.prog 13 #[errV k] w fun e w' => e = .returned (.int .i64 k) ∧ Below w.heap.size w w' := by
  by_cases hk : k = 0
  · subst hk
    rw [errV_none]
    go_enter Tryd.func13, Tryd.ntmps13
    go_wp2
    go_ret
    exact ⟨rfl, Below.refl _ _⟩
  · rw [errV_some hk]
    clear hk
    have hp := hg.pos
    have b1 : Below w.heap.size w (w.alloc (.cells #[.int .i64 0] 28)) := (Below.refl _ _).alloc (Nat.le_refl _) _
    have g1 := hg.below b1
    have BB := hid b1
    clear b1
    go_enter Tryd.func13, Tryd.ntmps13
    go_wp2_with fail
    refine (as_hit k ⟨w.heap.size, 0, none⟩ (.int .i64 0) _ g1 (by simp) (by simp)).mono ?_
    rintro e w1 ⟨rfl, rfl⟩
    go_wp2_with fail
    go_ret
    refine ⟨rfl, ?_⟩
    repeat (first | exact Below.refl _ _ | refine Below.setCell ?_ (Nat.le_refl _) _ | refine Below.alloc ?_ (by simp <;> omega) _)

set_option maxHeartbeats 400000 in
theorem error_any (k j : Int) (w : World) (hg : Glob w) :
    Calls Tryd.prog 7 #[errV k, .int .i64 j] w fun e w' => e = .returned (.bool (k == j)) ∧ Below w.heap.size w w' := by
  go_enter Tryd.func7, Tryd.ntmps7
  go_wp2_with fail
  refine (told_any k _ hg).mono ?_
  rintro e w1 ⟨rfl, b1⟩
  go_wp2_with fail
  go_ret
  exact ⟨rfl, b1⟩

theorem error_at (k j : Int) (v : Value) (w : World) (hg : Glob w) (hv : errV k = v) (h : k = j) :
    Calls Tryd.prog 7 #[v, .int .i64 j] w fun e w' => e = .returned (.bool true) ∧ Below w.heap.size w w' := by
  subst hv h
  exact (error_any k k w hg).mono fun e w' ⟨a, b⟩ => ⟨by rw [a, beq_self_eq_true], b⟩

end Go.Proofs.YtnbabdfcamdapaaDoor
