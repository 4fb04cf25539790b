/-
  The walk of Check: what is wrong with a name. It only reads.
-/
import Derived.Test.YtbgnbimknnpefaaNames
import Derived.Test.YtbgnbimknnpefaaText
namespace Go.Proofs.Ytbgnbimknnpefaa
open Go.RowKit

/-- The error of a number: none, or that of the project's own kind. -/
def errV (k : Int) : Value := if k = 0 then .nilIface else .iface 40 (.int .i64 k)

/-- The bytes of the first k labels, and one more for each; each of them may be. -/
def Fine (n : List ByteArray) (k t : Nat) : Prop := Nm.total ((n.map Nm.bs).take k) = t ∧ ∀ l ∈ (n.map Nm.bs).take k, Nm.okL l = true

theorem fine_zero (n : List ByteArray) : Fine n 0 0 := ⟨by simp [Nm.total], by simp⟩

theorem fine_bound {n : List ByteArray} {k t : Nat} (h : Fine n k t) : t ≤ 64 * k := by
  obtain ⟨rfl, h2⟩ := h
  have hl : ((n.map Nm.bs).take k).length ≤ k := List.length_take_le _ _
  generalize (n.map Nm.bs).take k = L at *
  have : Nm.total L ≤ 64 * L.length := by
    clear hl
    induction L with
    | nil => simp [Nm.total]
    | cons l L ih =>
      have a := of_decide_eq_true (h2 l (by simp))
      have b := ih (fun x hx => h2 x (by simp [hx]))
      unfold Nm.total at *
      rw [List.map_cons, List.sum_cons, List.length_cons]; omega
  omega

theorem take_map_next (n : List ByteArray) (k : Nat) (hk : k < n.length) : (n.map Nm.bs).take (k + 1) = (n.map Nm.bs).take k ++ [Nm.bs (n.getD k ByteArray.empty)] := by
  rw [List.take_succ_eq_append_getElem (by simpa using hk)]
  simp [List.getD_eq_getElem?_getD, List.getElem?_eq_getElem hk]

theorem fine_next {n : List ByteArray} {k t : Nat} (h : Fine n k t) (hk : k < n.length) (h1 : 1 ≤ (n.getD k ByteArray.empty).size) (h2 : (n.getD k ByteArray.empty).size ≤ 63) : Fine n (k + 1) (t + ((n.getD k ByteArray.empty).size + 1)) := by
  obtain ⟨rfl, a⟩ := h
  unfold Fine
  rw [take_map_next n k hk]
  refine ⟨?_, fun l hl => ?_⟩
  · unfold Nm.total
    rw [List.map_append, List.sum_append, List.map_singleton, List.sum_singleton, bs_length]
  · rcases List.mem_append.1 hl with q | q
    · exact a l q
    · rw [List.mem_singleton.1 q]
      unfold Nm.okL
      rw [bs_length]
      exact decide_eq_true ⟨h1, h2⟩

theorem check_bad {n : List ByteArray} {k : Nat} (hk : k < n.length) (h : (n.getD k ByteArray.empty).size = 0 ∨ 63 < (n.getD k ByteArray.empty).size) : Nm.checkN (n.map Nm.bs) = 3 := by
  unfold Nm.checkN
  rw [if_neg]
  intro q
  have := List.all_eq_true.1 q (Nm.bs (n.getD k ByteArray.empty)) (by
    rw [List.getD_eq_getElem?_getD, List.getElem?_eq_getElem hk]
    exact List.mem_map_of_mem (List.getElem_mem hk))
  unfold Nm.okL at this
  have := of_decide_eq_true this
  rw [bs_length] at this
  omega

theorem check_end {n : List ByteArray} {k t : Nat} (h : Fine n k t) (hk : n.length ≤ k) : Nm.checkN (n.map Nm.bs) = if 254 < t then 5 else 0 := by
  obtain ⟨rfl, a⟩ := h
  rw [List.take_of_length_le (by simpa using hk)] at a ⊢
  unfold Nm.checkN
  rw [if_pos (List.all_eq_true.2 a)]

theorem ret_err {k j : Int} (h : k = j) (hj : ¬ j = 0) : Ending.returned (.iface 40 (.int .i64 j)) = .returned (errV k) := by
  rw [h]; unfold errV; rw [if_neg hj]
theorem ret_ok {k : Int} (h : k = 0) : Ending.returned .nilIface = .returned (errV k) := by
  rw [h]; unfold errV; rw [if_pos rfl]

set_option maxHeartbeats 400000 in
theorem check_any (x : Option Addr) (c : Nat) (n : List ByteArray) (w : World) (h : Strs w x c n) :
    Calls Try.prog 15 #[.slice x n.length c] w fun e w' => e = .returned (errV (Nm.checkN (n.map Nm.bs))) ∧ w' = w := by
  have hl : n.length ≤ 8796093022208 := h.2.1
  go_enter Try.func15, Try.ntmps15
  go_wp2
  go_loop [3, 8] (fun s i => ∃ k t : Nat, k ≤ n.length ∧ s = .int .i64 ((t : Int) + 1) ∧ i = .int .i64 (k : Int) ∧ Fine n k t) (fun _ i => n.length - (intOf i).toNat)
  case atStart => exact ⟨0, 0, Nat.zero_le _, rfl, rfl, fine_zero n⟩
  case round =>
    obtain ⟨k, t, hk, rfl, rfl, hfine⟩ := hrel
    have hb := fine_bound hfine
    by_cases h1 : k < n.length
    · obtain ⟨_, _, sa, da⟩ := h
      rcases da with da | ⟨ba, oa, rfl, _, qa⟩
      · rw [da] at h1; simp at h1
      have fa := qa k (by omega)
      have na := getD_mem_size sa k
      have E1 := hid (fine_next hfine h1)
      have E2 := hid (@check_bad n k h1)
      clear qa sa
      generalize n.getD k ByteArray.empty = s at *
      by_cases hs0 : s.size = 0
      · have hz : ((s.size : Int) == 0) = true := beq_iff_eq.2 (by omega)
        have E3 := hid (E2.out (Or.inl hs0))
        clear E1 E2 hs0
        go_wp2
        go_ret
        exact ⟨ret_err E3.out (by decide), rfl⟩
      · have hz : ((s.size : Int) == 0) = false := beq_eq_false_iff_ne.2 (by omega)
        by_cases hs1 : 63 < s.size
        · have E3 := hid (E2.out (Or.inr hs1))
          clear E1 E2
          go_wp2
          go_ret
          exact ⟨ret_err E3.out (by decide), rfl⟩
        · have hs2 : 1 ≤ s.size := by omega
          go_wp2
          exact ⟨⟨k + 1, t + (s.size + 1), by omega, by go_num, by go_num, E1.out hs2 (by omega)⟩, by simp [intOf]; omega⟩
    · have E := check_end hfine (by omega)
      by_cases ht : 254 < t
      · rw [if_pos ht] at E
        have E3 := hid E
        have ht2 : (255 : Int) < (t : Int) + 1 := by omega
        clear E ht
        go_wp2
        go_ret
        exact ⟨ret_err E3.out (by decide), rfl⟩
      · rw [if_neg ht] at E
        have E3 := hid E
        have ht2 : ¬ (255 : Int) < (t : Int) + 1 := by omega
        clear E ht
        go_wp2
        go_ret
        exact ⟨ret_ok E3.out, rfl⟩

end Go.Proofs.Ytbgnbimknnpefaa
