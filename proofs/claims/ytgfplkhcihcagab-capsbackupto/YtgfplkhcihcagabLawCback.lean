/-
  The walk of the law CapsBack.
-/
import Derived.Test.YtgfplkhcihcagabCapAt
namespace Go.Proofs.Ytgfplkhcihcagab
open Go.RowKit Go.Deep

theorem grown_on' {w w1 w2 : World} (h : Below w.heap.size w w1) (k : Below w1.heap.size w1 w2) : Below w.heap.size w w2 := h.trans (k.mono h.size)

theorem take_same {a b : List Bool} {k : Nat} (ha : k < a.length) (hb : k < b.length) (p : Bool) (h : decide (a.take k = b.take k) = p) : (if (a.getD k false != b.getD k false) = true then false else p) = decide (a.take (k + 1) = b.take (k + 1)) := by
  have ea : a.take (k + 1) = a.take k ++ [a.getD k false] := by rw [List.take_add_one, List.getElem?_eq_getElem ha]; simp [List.getD, ha]
  have eb : b.take (k + 1) = b.take k ++ [b.getD k false] := by rw [List.take_add_one, List.getElem?_eq_getElem hb]; simp [List.getD, hb]
  rw [ea, eb]
  have hl : (a.take k).length = (b.take k).length := by simp; omega
  subst h
  by_cases q : a.getD k false = b.getD k false
  · rw [q]
    simp
  · have : ¬ (a.take k ++ [a.getD k false] = b.take k ++ [b.getD k false]) := by
      intro e
      have := (List.append_inj e hl).2
      simp at this
      exact q this
    rw [decide_eq_false this, if_pos (by simpa using q)]

set_option maxHeartbeats 4000000 in
set_option maxRecDepth 100000 in
theorem cback_good {x y z : Option Addr} {cx cy cz lx ly lz : Nat} (n : List ByteArray) (a b : List Bool) (w : World) (hS : Strs w x cx n) (hA : Bols w y cy a) (hB : Bols w z cz b) (hlx : n.length = lx) (hly : a.length = ly) (hlz : b.length = lz) (hN : nL n ≤ 1048576) (h1 : nL n ≤ a.length) (h2 : nL n ≤ b.length) :
    Calls Try.prog 6 #[.slice x lx cx, .slice y ly cy, .slice z lz cz] w fun e w' => e = .returned (.bool true) ∧ Below w.heap.size w w' := by
  obtain ⟨k, hk⟩ : ∃ k, nL n = k := ⟨_, rfl⟩
  rw [hk] at hN h1 h2
  have HK := hid hk
  have H1 := hid h1
  have H2 := hid h2
  have HLX := hid hlx
  have HLY := hid hly
  have HLZ := hid hlz
  have g1 : k ≤ ly := by omega
  have g2 : k ≤ lz := by omega
  clear hk h1 h2 hlx hly hlz
  have B0 := hid ((Below.refl w.heap.size w).alloc (Nat.le_refl _) (.cells #[.string ⟨#[97, 49]⟩] 9))
  have S0 := hid (Strs.one (w := w.alloc (.cells #[.string ⟨#[97, 49]⟩] 9)) (g := w.heap.size) (s := ⟨#[97, 49]⟩) (by simp) (by simp) (by decide))
  go_enter Try.func6, Try.ntmps6
  go_wp2_with fail
  refine (letters_at [⟨#[97, 49]⟩] _ S0.out rfl (by rw [nL_a1]; decide) 1 nL_a1).mono ?_
  rintro e w1 ⟨rfl, d1⟩
  have B1 := hid (grown_on' B0.out d1)
  clear d1 S0 B0
  go_wp2_with fail
  refine (letters_at n w1 (hS.below B1.out) HLX.out (by rw [HK.out]; omega) k HK.out).mono ?_
  rintro e w2 ⟨rfl, d2⟩
  have B2 := hid (grown_on' B1.out d2)
  clear d2 B1
  go_wp2_with fail
  refine (bits_at n w2 (hS.below B2.out) HLX.out (by rw [HK.out]; omega)).mono ?_
  rintro e w3 ⟨y3, c3, rfl, o3, d3⟩
  rw [HK.out]
  have B3 := hid (grown_on' B2.out d3)
  have O3 := hid o3
  clear d3 o3 B2
  go_wp2_with fail
  refine (mix_at n _ w3 (hS.below B3.out) O3.out HLX.out ((Cp.greats_len _).trans HK.out) (by rw [Cp.greats_len]; exact Nat.le_refl _)).mono ?_
  rintro e w4 ⟨b4, rfl, s4, d4⟩
  have B4 := hid (grown_on' B3.out d4)
  have S4 := hid s4
  clear d4 s4 B3 O3
  go_wp2_with fail
  refine (texts_at true _ n w4 S4.out (hS.below B4.out) (by rw [mixS_len]; exact HLX.out) HLX.out (decide_eq_true (mixS_own n))).mono ?_
  rintro e w5 ⟨rfl, d5⟩
  have B5 := hid (B4.out.trans (d5.below _))
  clear d5 S4 B4
  go_wp2_with fail
  refine (mix_at n a w5 (hS.below B5.out) (hA.below B5.out) HLX.out HLY.out (by rw [HK.out]; exact H1.out)).mono ?_
  rintro e w6 ⟨b6, rfl, s6, d6⟩
  have B6 := hid (grown_on' B5.out d6)
  have S6 := hid s6
  clear d6 s6 B5
  go_wp2_with fail
  refine (mix_at n b w6 (hS.below B6.out) (hB.below B6.out) HLX.out HLZ.out (by rw [HK.out]; exact H2.out)).mono ?_
  rintro e w7 ⟨b7, rfl, s7, d7⟩
  have B7 := hid (grown_on' B6.out d7)
  have S7 := hid s7
  have T7 := hid (S6.out.below d7)
  clear d7 s7 B6 S6
  go_wp2_with fail
  refine (bits_at (mixS n a) w7 T7.out (by rw [mixS_len]; exact HLX.out) (by rw [nL_mixS, HK.out]; omega)).mono ?_
  rintro e w8 ⟨y8, c8, rfl, o8, d8⟩
  rw [nL_mixS, HK.out]
  rw [mixS_great (by rw [HK.out]; exact H1.out), HK.out] at o8
  have B8 := hid (grown_on' B7.out d8)
  have O8 := hid o8
  have S8 := hid (S7.out.below d8)
  have T8 := hid (T7.out.below d8)
  clear d8 o8 B7 S7 T7
  go_wp2_with fail
  refine (same_at true (mixS n a) n w8 T8.out (hS.below B8.out) (by rw [mixS_len]; exact HLX.out) HLX.out (by rw [mixS_same]; rfl)).mono ?_
  rintro e w9 ⟨rfl, d9⟩
  have B9 := hid (B8.out.trans (d9.below _))
  have O9 := hid (O8.out.below (d9.below _))
  have S9 := hid (S8.out.drawn d9)
  have T9 := hid (T8.out.drawn d9)
  clear d9 B8 O8 S8 T8
  go_wp2_with fail
  go_loopw [16, 17] (fun va vi wr => ∃ (i : Nat), i ≤ k ∧ vi = .int .i64 (i : Int) ∧ va = .bool (decide (a.take i = b.take i)) ∧ Drawn w9 wr) (fun _ vi _ => k - (intOf vi).toNat)
  case atStart => exact ⟨0, Nat.zero_le _, rfl, by simp, Drawn.refl _⟩
  case round =>
    obtain ⟨i, hi, rfl, rfl, hdr⟩ := hrel
    by_cases h1 : i < k
    · have TS := take_same (a := a) (b := b) (k := i) (Nat.lt_of_lt_of_le h1 H1.out) (Nat.lt_of_lt_of_le h1 H2.out) _ rfl
      have W0 := B9.out.trans (hdr.below w.heap.size)
      obtain ⟨_, _, o1⟩ := O9.out.below (hdr.below _)
      obtain ⟨_, _, o2⟩ := hA.below W0
      obtain ⟨_, _, o3⟩ := hB.below W0
      have q1 : i < (a.take k).length := by rw [List.length_take]; have := H1.out; omega
      have q2 : i < a.length := Nat.lt_of_lt_of_le h1 H1.out
      have q3 : i < b.length := Nat.lt_of_lt_of_le h1 H2.out
      rcases o1 with o1 | ⟨t1, u1, rfl, _, v1⟩
      · rw [o1] at q1; simp at q1
      rcases o2 with o2 | ⟨t2, u2, rfl, _, v2⟩
      · rw [o2] at q2; simp at q2
      rcases o3 with o3 | ⟨t3, u3, rfl, _, v3⟩
      · rw [o3] at q3; simp at q3
      have m1 := v1 i q1
      have m2 := v2 i q2
      have m3 := v3 i q3
      rw [show (a.take k).getD i false = a.getD i false by simp [List.getD, h1]] at m1
      clear v1 v2 v3 q1 q2 q3 W0
      have r1 : (i : Int) < (k : Int) := by omega
      have r2 : (i : Int) < (ly : Int) := by omega
      have r3 : (i : Int) < (lz : Int) := by omega
      generalize a.getD i false = p at *
      generalize b.getD i false = q at *
      generalize decide (a.take i = b.take i) = al at *
      have HTS := hid TS
      clear TS
      cases p <;> cases q
      all_goals
        go_wp2_with fail
        go_quiet (fail)
        go_wp2_with fail
        go_quiet (fail)
        go_wp2_with fail
        exact ⟨⟨i + 1, by omega, by go_num, by rw [← HTS.out]; rfl, hdr.more _⟩, by simp [intOf]; omega⟩
    · obtain rfl : i = k := by omega
      obtain ⟨r, hr⟩ : ∃ r, decide (a.take i = b.take i) = r := ⟨_, rfl⟩
      rw [hr]
      have HR : Hid (decide (mixS n a = mixS n b) = r) := hid (by rw [← hr]; exact decide_eq_decide.2 (by rw [mixS_alike (by rw [HK.out]; exact H1.out) (by rw [HK.out]; exact H2.out), HK.out]))
      clear hr
      go_wp2_with fail
      refine (texts_at r (mixS n a) (mixS n b) _ (T9.out.drawn hdr) (S9.out.drawn hdr) (by rw [mixS_len]; exact HLX.out) (by rw [mixS_len]; exact HLX.out) HR.out).mono ?_
      rintro e w10 ⟨rfl, d10⟩
      have B10 := hid ((B9.out.trans (hdr.below _)).trans (d10.below _))
      clear d10
      cases r
      all_goals
        go_wp2_with fail
        go_ret
        exact ⟨rfl, B10.out⟩

set_option maxHeartbeats 4000000 in
set_option maxRecDepth 100000 in
theorem cback_bad {x y z : Option Addr} {cx cy cz lx ly lz : Nat} (n : List ByteArray) (a b : List Bool) (w : World) (hS : Strs w x cx n) (hA : Bols w y cy a) (hB : Bols w z cz b) (hlx : n.length = lx) (hly : a.length = ly) (hlz : b.length = lz) (hN : nL n ≤ 1048576) (hx : (nL n ≤ a.length ∧ b.length < nL n) ∨ (a.length < nL n ∧ nL n ≤ b.length) ∨ (a.length < nL n ∧ b.length < nL n)) :
    Calls Try.prog 6 #[.slice x lx cx, .slice y ly cy, .slice z lz cz] w fun e w' => e = .returned (.bool true) ∧ Below w.heap.size w w' := by
  obtain ⟨k, hk⟩ : ∃ k, nL n = k := ⟨_, rfl⟩
  rw [hk] at hN hx
  have HK := hid hk
  have HLX := hid hlx
  have HLY := hid hly
  have HLZ := hid hlz
  have hg : ((k : Int) ≤ (ly : Int) ∧ (lz : Int) < (k : Int)) ∨ ((ly : Int) < (k : Int) ∧ (k : Int) ≤ (lz : Int)) ∨ ((ly : Int) < (k : Int) ∧ (lz : Int) < (k : Int)) := by omega
  clear hk hlx hly hlz hx
  rcases hg with ⟨g1, g2⟩ | ⟨g1, g2⟩ | ⟨g1, g2⟩
  · have B0 := hid ((Below.refl w.heap.size w).alloc (Nat.le_refl _) (.cells #[.string ⟨#[97, 49]⟩] 9))
    have S0 := hid (Strs.one (w := w.alloc (.cells #[.string ⟨#[97, 49]⟩] 9)) (g := w.heap.size) (s := ⟨#[97, 49]⟩) (by simp) (by simp) (by decide))
    go_enter Try.func6, Try.ntmps6
    go_wp2_with fail
    refine (letters_at [⟨#[97, 49]⟩] _ S0.out rfl (by rw [nL_a1]; decide) 1 nL_a1).mono ?_
    rintro e w1 ⟨rfl, d1⟩
    have B1 := hid (grown_on' B0.out d1)
    clear d1 S0 B0
    go_wp2_with fail
    refine (letters_at n w1 (hS.below B1.out) HLX.out (by rw [HK.out]; omega) k HK.out).mono ?_
    rintro e w2 ⟨rfl, d2⟩
    have B2 := hid (grown_on' B1.out d2)
    clear d2 B1
    go_wp2_with fail
    refine (bits_at n w2 (hS.below B2.out) HLX.out (by rw [HK.out]; omega)).mono ?_
    rintro e w3 ⟨y3, c3, rfl, o3, d3⟩
    rw [HK.out]
    have B3 := hid (grown_on' B2.out d3)
    have O3 := hid o3
    clear d3 o3 B2
    go_wp2_with fail
    refine (mix_at n _ w3 (hS.below B3.out) O3.out HLX.out ((Cp.greats_len _).trans HK.out) (by rw [Cp.greats_len]; exact Nat.le_refl _)).mono ?_
    rintro e w4 ⟨b4, rfl, s4, d4⟩
    have B4 := hid (grown_on' B3.out d4)
    have S4 := hid s4
    clear d4 s4 B3 O3
    go_wp2_with fail
    refine (texts_at true _ n w4 S4.out (hS.below B4.out) (by rw [mixS_len]; exact HLX.out) HLX.out (decide_eq_true (mixS_own n))).mono ?_
    rintro e w5 ⟨rfl, d5⟩
    have B5 := hid (B4.out.trans (d5.below _))
    clear d5 S4 B4
    go_wp2_with fail
    refine (mix_at n a w5 (hS.below B5.out) (hA.below B5.out) HLX.out HLY.out (by rw [HK.out, HLY.out]; omega)).mono ?_
    rintro e w6 ⟨b6, rfl, _, d6⟩
    have B6 := hid (grown_on' B5.out d6)
    clear d6 B5
    go_wp2_with fail
    refine (mix_no n b w6 (hS.below B6.out) HLX.out HLZ.out (by rw [HK.out]; omega) (by rw [HK.out, HLZ.out]; omega)).mono ?_
    rintro e w7 ⟨rfl, d7⟩
    have B7 := hid (grown_on' B6.out d7)
    clear d7 B6
    go_wp2_with fail
    go_ret
    exact ⟨rfl, B7.out⟩
  · have B0 := hid ((Below.refl w.heap.size w).alloc (Nat.le_refl _) (.cells #[.string ⟨#[97, 49]⟩] 9))
    have S0 := hid (Strs.one (w := w.alloc (.cells #[.string ⟨#[97, 49]⟩] 9)) (g := w.heap.size) (s := ⟨#[97, 49]⟩) (by simp) (by simp) (by decide))
    go_enter Try.func6, Try.ntmps6
    go_wp2_with fail
    refine (letters_at [⟨#[97, 49]⟩] _ S0.out rfl (by rw [nL_a1]; decide) 1 nL_a1).mono ?_
    rintro e w1 ⟨rfl, d1⟩
    have B1 := hid (grown_on' B0.out d1)
    clear d1 S0 B0
    go_wp2_with fail
    refine (letters_at n w1 (hS.below B1.out) HLX.out (by rw [HK.out]; omega) k HK.out).mono ?_
    rintro e w2 ⟨rfl, d2⟩
    have B2 := hid (grown_on' B1.out d2)
    clear d2 B1
    go_wp2_with fail
    refine (bits_at n w2 (hS.below B2.out) HLX.out (by rw [HK.out]; omega)).mono ?_
    rintro e w3 ⟨y3, c3, rfl, o3, d3⟩
    rw [HK.out]
    have B3 := hid (grown_on' B2.out d3)
    have O3 := hid o3
    clear d3 o3 B2
    go_wp2_with fail
    refine (mix_at n _ w3 (hS.below B3.out) O3.out HLX.out ((Cp.greats_len _).trans HK.out) (by rw [Cp.greats_len]; exact Nat.le_refl _)).mono ?_
    rintro e w4 ⟨b4, rfl, s4, d4⟩
    have B4 := hid (grown_on' B3.out d4)
    have S4 := hid s4
    clear d4 s4 B3 O3
    go_wp2_with fail
    refine (texts_at true _ n w4 S4.out (hS.below B4.out) (by rw [mixS_len]; exact HLX.out) HLX.out (decide_eq_true (mixS_own n))).mono ?_
    rintro e w5 ⟨rfl, d5⟩
    have B5 := hid (B4.out.trans (d5.below _))
    clear d5 S4 B4
    go_wp2_with fail
    refine (mix_no n a w5 (hS.below B5.out) HLX.out HLY.out (by rw [HK.out]; omega) (by rw [HK.out, HLY.out]; omega)).mono ?_
    rintro e w6 ⟨rfl, d6⟩
    have B6 := hid (grown_on' B5.out d6)
    clear d6 B5
    go_wp2_with fail
    refine (mix_at n b w6 (hS.below B6.out) (hB.below B6.out) HLX.out HLZ.out (by rw [HK.out, HLZ.out]; omega)).mono ?_
    rintro e w7 ⟨b7, rfl, _, d7⟩
    have B7 := hid (grown_on' B6.out d7)
    clear d7 B6
    go_wp2_with fail
    go_ret
    exact ⟨rfl, B7.out⟩
  · have B0 := hid ((Below.refl w.heap.size w).alloc (Nat.le_refl _) (.cells #[.string ⟨#[97, 49]⟩] 9))
    have S0 := hid (Strs.one (w := w.alloc (.cells #[.string ⟨#[97, 49]⟩] 9)) (g := w.heap.size) (s := ⟨#[97, 49]⟩) (by simp) (by simp) (by decide))
    go_enter Try.func6, Try.ntmps6
    go_wp2_with fail
    refine (letters_at [⟨#[97, 49]⟩] _ S0.out rfl (by rw [nL_a1]; decide) 1 nL_a1).mono ?_
    rintro e w1 ⟨rfl, d1⟩
    have B1 := hid (grown_on' B0.out d1)
    clear d1 S0 B0
    go_wp2_with fail
    refine (letters_at n w1 (hS.below B1.out) HLX.out (by rw [HK.out]; omega) k HK.out).mono ?_
    rintro e w2 ⟨rfl, d2⟩
    have B2 := hid (grown_on' B1.out d2)
    clear d2 B1
    go_wp2_with fail
    refine (bits_at n w2 (hS.below B2.out) HLX.out (by rw [HK.out]; omega)).mono ?_
    rintro e w3 ⟨y3, c3, rfl, o3, d3⟩
    rw [HK.out]
    have B3 := hid (grown_on' B2.out d3)
    have O3 := hid o3
    clear d3 o3 B2
    go_wp2_with fail
    refine (mix_at n _ w3 (hS.below B3.out) O3.out HLX.out ((Cp.greats_len _).trans HK.out) (by rw [Cp.greats_len]; exact Nat.le_refl _)).mono ?_
    rintro e w4 ⟨b4, rfl, s4, d4⟩
    have B4 := hid (grown_on' B3.out d4)
    have S4 := hid s4
    clear d4 s4 B3 O3
    go_wp2_with fail
    refine (texts_at true _ n w4 S4.out (hS.below B4.out) (by rw [mixS_len]; exact HLX.out) HLX.out (decide_eq_true (mixS_own n))).mono ?_
    rintro e w5 ⟨rfl, d5⟩
    have B5 := hid (B4.out.trans (d5.below _))
    clear d5 S4 B4
    go_wp2_with fail
    refine (mix_no n a w5 (hS.below B5.out) HLX.out HLY.out (by rw [HK.out]; omega) (by rw [HK.out, HLY.out]; omega)).mono ?_
    rintro e w6 ⟨rfl, d6⟩
    have B6 := hid (grown_on' B5.out d6)
    clear d6 B5
    go_wp2_with fail
    refine (mix_no n b w6 (hS.below B6.out) HLX.out HLZ.out (by rw [HK.out]; omega) (by rw [HK.out, HLZ.out]; omega)).mono ?_
    rintro e w7 ⟨rfl, d7⟩
    have B7 := hid (grown_on' B6.out d7)
    clear d7 B6
    go_wp2_with fail
    go_ret
    exact ⟨rfl, B7.out⟩

theorem cback_walk {x y z : Option Addr} {cx cy cz lx ly lz : Nat} (n : List ByteArray) (a b : List Bool) (w : World) (hS : Strs w x cx n) (hA : Bols w y cy a) (hB : Bols w z cz b) (hlx : n.length = lx) (hly : a.length = ly) (hlz : b.length = lz) (hN : nL n ≤ 1048576) :
    Calls Try.prog 6 #[.slice x lx cx, .slice y ly cy, .slice z lz cz] w fun e w' => e = .returned (.bool true) ∧ Below w.heap.size w w' := by
  by_cases h1 : nL n ≤ a.length
  · by_cases h2 : nL n ≤ b.length
    · exact cback_good n a b w hS hA hB hlx hly hlz hN h1 h2
    · exact cback_bad n a b w hS hA hB hlx hly hlz hN (.inl ⟨h1, by omega⟩)
  · by_cases h2 : nL n ≤ b.length
    · exact cback_bad n a b w hS hA hB hlx hly hlz hN (.inr (.inl ⟨by omega, h2⟩))
    · exact cback_bad n a b w hS hA hB hlx hly hlz hN (.inr (.inr ⟨by omega, by omega⟩))

end Go.Proofs.Ytgfplkhcihcagab
