/-
  The walks of isGreat, isLetter, sized: each tells of a byte.
-/
import Derived.Test.YtgfplkhcihcagabDoorWalkA
import Derived.Test.YtgfplkhcihcagabDoorCap
import Derived.Laws.BitsLemmas
namespace Go.Proofs.YtgfplkhcihcagabDoor
open Go.RowKit Go.Deep

set_option maxHeartbeats 400000 in
theorem isGreat_any (c : Int) (w : World) (_ : 0 ≤ c) (_ : c ≤ 255) : Calls Tryd.prog 13 #[.int .u8 c] w fun e w' => e = .returned (.bool (Cp.isG c)) ∧ w' = w := by
  by_cases a : 65 ≤ c
  · by_cases b : c ≤ 90
    · rw [show Cp.isG c = true from (Cp.isG_iff c).2 ⟨a, b⟩]
      go_enter Tryd.func13, Tryd.ntmps13
      go_wp2
      go_ret
      exact ⟨rfl, rfl⟩
    · rw [show Cp.isG c = false from by unfold Cp.isG; exact decide_eq_false (fun q => b q.2)]
      go_enter Tryd.func13, Tryd.ntmps13
      go_wp2
      go_ret
      exact ⟨rfl, rfl⟩
  · rw [show Cp.isG c = false from by unfold Cp.isG; exact decide_eq_false (fun q => a q.1)]
    go_enter Tryd.func13, Tryd.ntmps13
    go_wp2
    go_ret
    exact ⟨rfl, rfl⟩

theorem isGreat_at (r : Bool) (c : Int) (w : World) (h0 : 0 ≤ c) (h1 : c ≤ 255) (hr : Cp.isG c = r) : Calls Tryd.prog 13 #[.int .u8 c] w fun e w' => e = .returned (.bool r) ∧ w' = w := by
  subst hr; exact isGreat_any c w h0 h1

set_option maxHeartbeats 400000 in
theorem isLetter_at (r : Bool) (c : Int) (w : World) (h0 : 0 ≤ c) (h1 : c ≤ 255) (hr : Cp.isL c = r) : Calls Tryd.prog 20 #[.int .u8 c] w fun e w' => e = .returned (.bool r) ∧ w' = w := by
  have hx : (Cp.isG c = true ∧ r = true) ∨ (Cp.isG c = false ∧ ((97 ≤ c ∧ c ≤ 122 ∧ r = true) ∨ (¬ 97 ≤ c ∧ r = false) ∨ (97 ≤ c ∧ ¬ c ≤ 122 ∧ r = false))) := by
    subst hr
    cases hg : Cp.isG c
    · right
      refine ⟨rfl, ?_⟩
      by_cases a : 97 ≤ c
      · by_cases b : c ≤ 122
        · exact .inl ⟨a, b, by unfold Cp.isL; rw [hg]; simp [a, b]⟩
        · exact .inr (.inr ⟨a, b, by unfold Cp.isL; rw [hg]; simp; omega⟩)
      · exact .inr (.inl ⟨a, by unfold Cp.isL; rw [hg]; simp; omega⟩)
    · left; exact ⟨rfl, by unfold Cp.isL; rw [hg]; rfl⟩
  clear hr
  rcases hx with ⟨hg, rfl⟩ | ⟨hg, ⟨a, b, rfl⟩ | ⟨a, rfl⟩ | ⟨a, b, rfl⟩⟩
  all_goals
    have HG := hid hg
    clear hg
    go_enter Tryd.func20, Tryd.ntmps20
    go_wp2_with fail
    refine (isGreat_at _ c w h0 h1 HG.out).mono ?_
    rintro e w' ⟨rfl, rfl⟩
    go_wp2_with fail
    go_ret
    exact ⟨by simp [*], rfl⟩

theorem letter_bits : (List.range 256).all (fun k => !Cp.isL (k : Int) || (bits .andNot .u8 (k : Int) 32 == Cp.sized (k : Int) true && bits .or .u8 (k : Int) 32 == Cp.sized (k : Int) false)) = true := by decide +kernel

theorem sized_bits {c : Int} (h : Cp.isL c = true) : bits .andNot .u8 c 32 = Cp.sized c true ∧ bits .or .u8 c 32 = Cp.sized c false := by
  have hb := (Cp.isL_iff c).1 h
  obtain ⟨k, rfl⟩ : ∃ k : Nat, c = (k : Int) := ⟨c.toNat, by omega⟩
  have := letter_bits
  rw [List.all_eq_true] at this
  have := this k (List.mem_range.2 (by omega))
  rw [h] at this
  simpa using this

set_option maxHeartbeats 400000 in
theorem sized_at (b : Bool) (c r : Int) (w : World) (h : Cp.isL c = true) (hr : Cp.sized c b = r) : Calls Tryd.prog 16 #[.int .u8 c, .bool b] w fun e w' => e = .returned (.int .u8 r) ∧ w' = w := by
  obtain ⟨h1, h2⟩ := sized_bits h
  have hb := (Cp.isL_iff c).1 h
  have H1 := hid h1
  have H2 := hid h2
  clear h1 h2
  cases b
  all_goals
    go_enter Tryd.func16, Tryd.ntmps16
    go_wp2_with fail
    go_ret
    first | exact ⟨ret_int (H1.out.trans hr), rfl⟩ | exact ⟨ret_int (H2.out.trans hr), rfl⟩

end Go.Proofs.YtgfplkhcihcagabDoor
