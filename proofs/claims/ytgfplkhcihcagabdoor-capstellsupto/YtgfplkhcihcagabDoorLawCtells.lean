/-
  The walk of the law CapsTells.
-/
import Derived.Test.YtgfplkhcihcagabDoorRefCap
import Derived.Test.YtgfplkhcihcagabDoorRefFault
namespace Go.Proofs.YtgfplkhcihcagabDoor
open Go.RowKit Go.Deep

theorem grown_on2 {w w1 w2 : World} (h : Below w.heap.size w w1) (k : Below w1.heap.size w1 w2) : Below w.heap.size w w2 := h.trans (k.mono h.size)

theorem greats_at2 {x : Option Addr} {c l : Nat} (n : List ByteArray) (w : World) (h : Strs w x c n) (hl : n.length = l) (hN : nL n ≤ 100000000000) :
    Calls Tryd.prog 4 #[.slice x l c] w fun e w' => ∃ y d, e = .returned (.slice y (nL n) d) ∧ Bols w' y d (Cp.greatsN (labs n)) ∧ Below w.heap.size w w' := by
  subst hl
  refine (greats_any x c n w h hN).mono fun e w' ⟨v, h1, h2, h3⟩ => ?_
  have e1 : (Cp.greatsN (labs n)).length = nL n := Cp.greats_len _
  obtain ⟨y, d, h4, h5⟩ := rowo_bols h2 (by omega)
  exact ⟨y, d, by rw [h1, h4, e1], h5, h3⟩

set_option maxHeartbeats 4000000 in
set_option maxRecDepth 100000 in
theorem ctells_walk {x y : Option Addr} {cx cy lx ly : Nat} (n : List ByteArray) (a : List Bool) (w : World) (hS : Strs w x cx n) (hA : Bols w y cy a) (hg : Glob w) (hlx : n.length = lx) (hly : a.length = ly) (hN : nL n ≤ 1048576) :
    Calls Tryd.prog 3 #[.slice x lx cx, .slice y ly cy] w fun e w' => e = .returned (.bool true) ∧ Below w.heap.size w w' := by
  obtain ⟨k, hk⟩ : ∃ k, nL n = k := ⟨_, rfl⟩
  rw [hk] at hN
  have HK := hid hk
  have HLX := hid hlx
  have HLY := hid hly
  clear hk hlx hly
  go_enter Tryd.func3, Tryd.ntmps3
  go_wp2_with fail
  refine (greats_at2 n w hS HLX.out (by rw [HK.out]; omega)).mono ?_
  rintro e w1 ⟨y1, c1, rfl, o1, d1⟩
  rw [HK.out]
  have B1 := hid d1
  have O1 := hid o1
  clear d1 o1
  go_wp2_with fail
  refine (bits_at n w1 (hS.below B1.out) HLX.out (by rw [HK.out]; omega)).mono ?_
  rintro e w2 ⟨y2, c2, rfl, o2, d2⟩
  rw [HK.out]
  have B2 := hid (grown_on2 B1.out d2)
  have O2 := hid o2
  have P2 := hid (O1.out.below d2)
  clear d2 o2 B1 O1
  go_wp2_with fail
  refine (letters_at n w2 (hS.below B2.out) HLX.out (by rw [HK.out]; omega) k HK.out).mono ?_
  rintro e w3 ⟨rfl, d3⟩
  have B3 := hid (grown_on2 B2.out d3)
  have O3 := hid (O2.out.below d3)
  have P3 := hid (P2.out.below d3)
  clear d3 B2 O2 P2
  have B4 := hid (B3.out.alloc B3.out.size (.cells #[.string ⟨#[97, 49]⟩] 9))
  have S4 := hid (Strs.one (w := w3.alloc (.cells #[.string ⟨#[97, 49]⟩] 9)) (g := w3.heap.size) (s := ⟨#[97, 49]⟩) (by simp) (by simp) (by decide))
  have A4 := hid ((Below.refl w3.heap.size w3).alloc (Nat.le_refl _) (.cells #[.string ⟨#[97, 49]⟩] 9))
  go_wp2_with fail
  refine (letters_at [⟨#[97, 49]⟩] _ S4.out rfl (by rw [nL_a1]; decide) 1 nL_a1).mono ?_
  rintro e w5 ⟨rfl, d5⟩
  have B5 := hid (grown_on2 B4.out d5)
  have O5 := hid ((O3.out.below A4.out).below d5)
  have P5 := hid ((P3.out.below A4.out).below d5)
  clear d5 B3 O3 P3 B4 S4 A4
  go_wp2_with fail
  go_loopw [7] (fun vi wr => ∃ (i : Nat), i ≤ k ∧ vi = .int .i64 (i : Int) ∧ Drawn w5 wr) (fun vi _ => k - (intOf vi).toNat)
  case atStart => exact ⟨0, Nat.zero_le _, rfl, Drawn.refl _⟩
  case round =>
    obtain ⟨i, hi, rfl, hdr⟩ := hrel
    by_cases h1 : i < k
    · obtain ⟨_, _, o1⟩ := O5.out.below (hdr.below _)
      obtain ⟨_, _, o2⟩ := P5.out.below (hdr.below _)
      have q1 : i < (Cp.greatsN (labs n)).length := by rw [show (Cp.greatsN (labs n)).length = nL n from Cp.greats_len _, HK.out]; exact h1
      rcases o1 with o1 | ⟨t1, u1, rfl, _, v1⟩
      · rw [o1] at q1; simp at q1
      rcases o2 with o2 | ⟨t2, u2, rfl, _, v2⟩
      · rw [o2] at q1; simp at q1
      have m1 := v1 i q1
      have m2 := v2 i q1
      clear v1 v2 q1
      have r1 : (i : Int) < (k : Int) := by omega
      generalize (Cp.greatsN (labs n)).getD i false = p at *
      cases p
      all_goals
        go_wp2_with fail
        go_quiet (fail)
        go_wp2_with fail
        exact ⟨⟨i + 1, by omega, by go_num, hdr.more _⟩, by simp [intOf]; omega⟩
    · have r1 : ¬ (i : Int) < (k : Int) := by omega
      have B6 := hid (B5.out.trans (hdr.below _))
      by_cases h2 : nL n ≤ a.length
      · have r2 : ¬ (ly : Int) < (k : Int) := by rw [HK.out, HLY.out] at h2; omega
        have H2 := hid h2
        clear h2
        go_wp2_with fail
        have HX := mixed_any x y cx cy ly n a _ (hS.below B6.out) (hA.below B6.out) HLY.out H2.out
        rw [HLX.out] at HX
        refine HX.mono ?_
        rintro e w7 ⟨z7, c7, rfl, s7, d7⟩
        have B7 := hid (grown_on2 B6.out d7)
        have S7 := hid s7
        clear d7 s7 HX
        go_wp2_with fail
        refine (mix_at n a w7 (hS.below B7.out) (hA.below B7.out) HLX.out HLY.out H2.out).mono ?_
        rintro e w8 ⟨b8, rfl, s8, d8⟩
        have B8 := hid (grown_on2 B7.out d8)
        have S8 := hid s8
        have T8 := hid (S7.out.below d8)
        clear d8 s8 S7 B7
        go_wp2_with fail
        refine (error_at 0 0 _ w8 (hg.below B8.out) rfl rfl).mono ?_
        rintro e w9 ⟨rfl, d9⟩
        have B9 := hid (grown_on2 B8.out d9)
        have S9 := hid (S8.out.below d9)
        have T9 := hid (T8.out.below d9)
        clear d9 S8 T8 B8
        go_wp2_with fail
        refine (texts_at true _ _ w9 S9.out T9.out (by rw [mixS_len]; exact HLX.out) (by rw [mixS_len]; exact HLX.out) (by simp)).mono ?_
        rintro e w10 ⟨rfl, d10⟩
        have B10 := hid (B9.out.trans (d10.below _))
        clear d10
        go_wp2_with fail
        go_ret
        exact ⟨rfl, B10.out⟩
      · have r2 : (ly : Int) < (k : Int) := by rw [HK.out, HLY.out] at h2; omega
        have H2 := hid (show a.length < nL n by omega)
        clear h2
        go_wp2_with fail
        refine (mix_no n a _ (hS.below B6.out) HLX.out HLY.out (by rw [HK.out]; omega) H2.out).mono ?_
        rintro e w8 ⟨rfl, d8⟩
        have B8 := hid (grown_on2 B6.out d8)
        clear d8
        go_wp2_with fail
        refine (error_at 2 2 _ w8 (hg.below B8.out) rfl rfl).mono ?_
        rintro e w9 ⟨rfl, d9⟩
        have B9 := hid (grown_on2 B8.out d9)
        clear d9 B8
        go_wp2_with fail
        refine (texts_at true [] [] w9 (Strs.empty w9) (Strs.empty w9) rfl rfl (by simp)).mono ?_
        rintro e w10 ⟨rfl, d10⟩
        have B10 := hid (B9.out.trans (d10.below _))
        clear d10
        go_wp2_with fail
        go_ret
        exact ⟨rfl, B10.out⟩

end Go.Proofs.YtgfplkhcihcagabDoor
