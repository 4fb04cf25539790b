/-
  The walks of package bucket: Check, Fill, Take.
-/
import Derived.Test.YtlmhcjkkdgdbjaaDoorBkRow
import Derived.Test.YtlmhcjkkdgdbjaaDoorRr
import Derived.Test.YtlmhcjkkdgdbjaaDoorWalkB
import Derived.Test.YtlmhcjkkdgdbjaaDoorMsgAt
import Derived.Deep.Cut
namespace Go.Proofs.YtlmhcjkkdgdbjaaDoor.Bu
open Go.RowKit Go.Deep

/-- A bucket as a value. -/
abbrev bkV (b : Bk) : Value := .agg #[.int .i64 b.rate, .int .i64 b.burst, .int .i64 b.has, .int .i64 b.at']

theorem bk_tk (n : Int) : decide (0 ≤ n ∧ n ≤ 2147483647) = decide (tk n) := rfl

/-- The numbers of a bucket in their order. -/
def nth (b : Bk) (k : Nat) : Int := [b.rate, b.burst, b.has, b.at'].getD k 0

theorem okE_first {b : Bk} {k : Nat} (hk : k < 4) (h : ¬ tk (nth b k)) : okE b = 6 := by
  unfold okE
  rw [if_neg]
  rintro ⟨h1, h2, h3, h4, _⟩
  rcases k with _ | _ | _ | _ | k
  · exact h h1
  · exact h h2
  · exact h h3
  · exact h h4
  · omega

set_option maxHeartbeats 1000000 in
set_option maxRecDepth 100000 in
theorem bcheck_any (b : Bk) (v : Value) (w : World) (hv : errV (okE b) = v) :
    Calls Tryd.prog 5 #[bkV b] w fun e w' => e = .returned v ∧ Below w.heap.size w w' := by
  have B0 := hid ((Below.refl w.heap.size w).alloc (Nat.le_refl _) (.cells #[.int .i64 b.rate, .int .i64 b.burst, .int .i64 b.has, .int .i64 b.at'] 23))
  have C0 := Bl.new 23 w #[.int .i64 b.rate, .int .i64 b.burst, .int .i64 b.has, .int .i64 b.at']
  have c0 := C0.cell (i := 0) rfl
  have c1 := C0.cell (i := 1) rfl
  have c2 := C0.cell (i := 2) rfl
  have c3 := C0.cell (i := 3) rfl
  obtain ⟨W1, hW⟩ : ∃ W1, w.alloc (.cells #[.int .i64 b.rate, .int .i64 b.burst, .int .i64 b.has, .int .i64 b.at'] 23) = W1 := ⟨_, rfl⟩
  rw [hW] at B0 c0 c1 c2 c3
  have HW := hid hW
  have i0 : ∀ u : World, (Instr.index 38 (.agg #[.int .i64 b.rate, .int .i64 b.burst, .int .i64 b.has, .int .i64 b.at']) (.int .i64 0)).run Tryd.prog u = .ok (.int .i64 b.rate) u := fun _ => by kernel_rfl
  have i1 : ∀ u : World, (Instr.index 38 (.agg #[.int .i64 b.rate, .int .i64 b.burst, .int .i64 b.has, .int .i64 b.at']) (.int .i64 1)).run Tryd.prog u = .ok (.int .i64 b.burst) u := fun _ => by kernel_rfl
  have i2 : ∀ u : World, (Instr.index 38 (.agg #[.int .i64 b.rate, .int .i64 b.burst, .int .i64 b.has, .int .i64 b.at']) (.int .i64 2)).run Tryd.prog u = .ok (.int .i64 b.has) u := fun _ => by kernel_rfl
  have i3 : ∀ u : World, (Instr.index 38 (.agg #[.int .i64 b.rate, .int .i64 b.burst, .int .i64 b.has, .int .i64 b.at']) (.int .i64 3)).run Tryd.prog u = .ok (.int .i64 b.at') u := fun _ => by kernel_rfl
  have HV := hid hv
  clear C0 hv hW
  go_enter Tryd.func5, Tryd.ntmps5
  go_upto_region 1 with fail
  rw [HW.out]
  go_wp2_with fail
  go_loopw [14] (fun x wr => ∃ (k : Nat), k ≤ 4 ∧ x = .int .i64 (k : Int) ∧ (∀ j, j < k → tk (nth b j)) ∧ wr = W1) (fun x _ => 4 - (intOf x).toNat)
  case atStart => exact ⟨0, by omega, rfl, fun j hj => by omega, by trivial⟩
  case round =>
    obtain ⟨k, hk, rfl, hall, rfl⟩ := hrel
    have HA := hid hall
    clear hall
    rcases (show k = 0 ∨ k = 1 ∨ k = 2 ∨ k = 3 ∨ k = 4 by omega) with rfl | rfl | rfl | rfl | rfl
    · by_cases h : tk b.rate
      · have HH := hid h
        have HN : Hid (∀ j, j < 0 + 1 → tk (nth b j)) := hid (fun j hj => by
          rcases (show j < 0 ∨ j = 0 by omega) with q | rfl
          · exact HA.out j q
          · exact h)
        clear h
        go_wp2_with fail
        refine (rfits_at true b.rate 2147483647 _ (decide_eq_true HH.out)).mono ?_
        rintro e w1 ⟨rfl, rfl⟩
        go_wp2_with fail
        exact ⟨⟨1, by omega, by go_num, HN.out, by trivial⟩, by simp [intOf]⟩
      · have HE := hid (okE_first (b := b) (k := 0) (by omega) h)
        have HH := hid h
        clear h
        go_wp2_with fail
        refine (rfits_at false b.rate 2147483647 _ (decide_eq_false HH.out)).mono ?_
        rintro e w1 ⟨rfl, rfl⟩
        go_wp2_with fail
        go_ret
        refine ⟨?_, B0.out⟩
        rw [← HV.out, HE.out]
        rfl
    · by_cases h : tk b.burst
      · have HH := hid h
        have HN : Hid (∀ j, j < 1 + 1 → tk (nth b j)) := hid (fun j hj => by
          rcases (show j < 1 ∨ j = 1 by omega) with q | rfl
          · exact HA.out j q
          · exact h)
        clear h
        go_wp2_with fail
        refine (rfits_at true b.burst 2147483647 _ (decide_eq_true HH.out)).mono ?_
        rintro e w1 ⟨rfl, rfl⟩
        go_wp2_with fail
        exact ⟨⟨2, by omega, by go_num, HN.out, by trivial⟩, by simp [intOf]⟩
      · have HE := hid (okE_first (b := b) (k := 1) (by omega) h)
        have HH := hid h
        clear h
        go_wp2_with fail
        refine (rfits_at false b.burst 2147483647 _ (decide_eq_false HH.out)).mono ?_
        rintro e w1 ⟨rfl, rfl⟩
        go_wp2_with fail
        go_ret
        refine ⟨?_, B0.out⟩
        rw [← HV.out, HE.out]
        rfl
    · by_cases h : tk b.has
      · have HH := hid h
        have HN : Hid (∀ j, j < 2 + 1 → tk (nth b j)) := hid (fun j hj => by
          rcases (show j < 2 ∨ j = 2 by omega) with q | rfl
          · exact HA.out j q
          · exact h)
        clear h
        go_wp2_with fail
        refine (rfits_at true b.has 2147483647 _ (decide_eq_true HH.out)).mono ?_
        rintro e w1 ⟨rfl, rfl⟩
        go_wp2_with fail
        exact ⟨⟨3, by omega, by go_num, HN.out, by trivial⟩, by simp [intOf]⟩
      · have HE := hid (okE_first (b := b) (k := 2) (by omega) h)
        have HH := hid h
        clear h
        go_wp2_with fail
        refine (rfits_at false b.has 2147483647 _ (decide_eq_false HH.out)).mono ?_
        rintro e w1 ⟨rfl, rfl⟩
        go_wp2_with fail
        go_ret
        refine ⟨?_, B0.out⟩
        rw [← HV.out, HE.out]
        rfl
    · by_cases h : tk b.at'
      · have HH := hid h
        have HN : Hid (∀ j, j < 3 + 1 → tk (nth b j)) := hid (fun j hj => by
          rcases (show j < 3 ∨ j = 3 by omega) with q | rfl
          · exact HA.out j q
          · exact h)
        clear h
        go_wp2_with fail
        refine (rfits_at true b.at' 2147483647 _ (decide_eq_true HH.out)).mono ?_
        rintro e w1 ⟨rfl, rfl⟩
        go_wp2_with fail
        exact ⟨⟨4, by omega, by go_num, HN.out, by trivial⟩, by simp [intOf]⟩
      · have HE := hid (okE_first (b := b) (k := 3) (by omega) h)
        have HH := hid h
        clear h
        go_wp2_with fail
        refine (rfits_at false b.at' 2147483647 _ (decide_eq_false HH.out)).mono ?_
        rintro e w1 ⟨rfl, rfl⟩
        go_wp2_with fail
        go_ret
        refine ⟨?_, B0.out⟩
        rw [← HV.out, HE.out]
        rfl
    · by_cases h : b.burst < b.has
      · have HE : Hid (okE b = 6) := hid (by unfold okE; rw [if_neg]; rintro ⟨_, _, _, _, q⟩; omega)
        go_wp2_with fail
        go_ret
        refine ⟨?_, B0.out⟩
        rw [← HV.out, HE.out]
        rfl
      · have HE : Hid (okE b = 0) := hid (by unfold okE; rw [if_pos]; exact ⟨HA.out 0 (by omega), HA.out 1 (by omega), HA.out 2 (by omega), HA.out 3 (by omega), by omega⟩)
        go_wp2_with fail
        go_ret
        refine ⟨?_, B0.out⟩
        rw [← HV.out, HE.out]
        rfl

end Go.Proofs.YtlmhcjkkdgdbjaaDoor.Bu
