/-
  The walk of the law BucketSplits.
-/
import Derived.Test.YtlmhcjkkdgdbjaaBkL
namespace Go.Proofs.Ytlmhcjkkdgdbjaa.Bu
open Go.RowKit Go.Deep

set_option maxHeartbeats 2000000 in
set_option maxRecDepth 100000 in
theorem bsplits_walk (b : Bk) (now m n : Int) (w : World) (_hb : Wds b) (hn : wd now) (hm : wd m) (hk : wd n) :
    Calls Try.prog 5 #[bkV b, .int .i64 now, .int .i64 m, .int .i64 n] w fun e w' => e = .returned (.bool true) ∧ Below w.heap.size w w' := by
  have hm' := hm
  have hk' := hk
  unfold wd at hm' hk'
  have W0 := (Below.refl w.heap.size w).alloc (Nat.le_refl _) (.cells #[.int .i64 b.rate, .int .i64 b.burst, .int .i64 b.has, .int .i64 b.at'] 23)
  have K0 := Bl.new 23 w #[.int .i64 b.rate, .int .i64 b.burst, .int .i64 b.has, .int .i64 b.at']
  have WW := hid W0
  have KB := hid K0
  clear W0 K0
  go_enter Try.func5, Try.ntmps5
  go_upto_region 1 with fail
  generalize w.alloc (.cells #[.int .i64 b.rate, .int .i64 b.burst, .int .i64 b.has, .int .i64 b.at'] 23) = w0 at *
  go_wp2_with fail
  refine (filled_any w0).mono ?_
  rintro e w1 ⟨rfl, q⟩
  replace KB := hid (KB.out.below q)
  replace WW := hid (grown_on WW.out q)
  clear q

  by_cases g1 : m < 0
  · go_wp2_with fail
    go_ret
    exact ⟨rfl, WW.out⟩
  by_cases g2 : n < 0
  · go_wp2_with fail
    go_ret
    exact ⟨rfl, WW.out⟩
  by_cases g3 : 1099511627776 < m
  · go_wp2_with fail
    go_ret
    exact ⟨rfl, WW.out⟩
  by_cases g4 : 1099511627776 < n
  · go_wp2_with fail
    go_ret
    exact ⟨rfl, WW.out⟩
  have hs : wd (m + n) := by unfold wd; omega
  go_upto_region 6 with fail
  obtain ⟨x, hx⟩ : ∃ x, takeR b now m = x := ⟨_, rfl⟩
  obtain ⟨y, hy⟩ : ∃ y, takeR x now n = y := ⟨_, rfl⟩
  obtain ⟨z, hz⟩ : ∃ z, takeR b now (m + n) = z := ⟨_, rfl⟩
  have HX := hid hx
  have HY := hid hy
  have HZ := hid hz
  obtain ⟨i1, hi1⟩ : ∃ i, takeI b now m = i := ⟨_, rfl⟩
  obtain ⟨i2, hi2⟩ : ∃ i, takeI x now n = i := ⟨_, rfl⟩
  obtain ⟨i3, hi3⟩ : ∃ i, takeI b now (m + n) = i := ⟨_, rfl⟩
  have I1 := hid hi1
  have I2 := hid hi2
  have I3 := hid hi3
  by_cases h1 : fits b now
  · have E1 : Hid (errV (takeE b now m) = .nilIface) := hid (by unfold takeE; rw [if_pos ⟨h1, by omega⟩]; rfl)
    have X1 : x = take b now m := by rw [← hx]; unfold takeR; rw [if_pos ⟨h1, by omega⟩]
    have h2 : fits x now := by
      have ha := (take_at b now m).1
      have ho := take_ok h1 (show 0 ≤ m by omega)
      rw [← X1] at ha ho
      exact ⟨ho, by omega, h1.2.2⟩
    have E2 : Hid (errV (takeE x now n) = .nilIface) := hid (by unfold takeE; rw [if_pos ⟨h2, by omega⟩]; rfl)
    have E3 : Hid (errV (takeE b now (m + n)) = .nilIface) := hid (by unfold takeE; rw [if_pos ⟨h1, by omega⟩]; rfl)
    have TT := take_two h1 (show 0 ≤ m by omega) (show 0 ≤ n by omega)
    rw [← X1] at TT
    have II : (i1 = true ∧ i2 = true ↔ i3 = true) ∧ (i3 = true → y = z) := by
      unfold takeI at hi1 hi2 hi3
      unfold takeR at hy hz
      rw [if_pos ⟨h1, by omega⟩] at hi1 hi3 hz
      rw [if_pos ⟨h2, by omega⟩] at hi2 hy
      rw [← hi1, ← hi2, ← hi3, ← hy, ← hz]
      exact TT
    clear TT h1 h2 X1 hx hy hz hi1 hi2 hi3
    have IH := hid II
    clear II
    obtain ⟨c0, c1, c2, c3⟩ := blFour KB.out
    go_wp2_with fail
    refine (btake_any b now m x i1 .nilIface _ hn hm HX.out I1.out E1.out).mono ?_
    rintro e u2 ⟨rfl, q⟩
    clear c0 c1 c2 c3
    have b2 := (own4 u2 x).2
    have k2 := (own4 u2 x).1
    replace KB := hid ((KB.out.below q).below b2)
    replace WW := hid ((grown_on WW.out q).trans (b2.mono (grown_on WW.out q).size))
    have KX := hid k2
    clear k2 b2 q
    go_upto_region 7 with fail
    generalize u2.alloc (.cells #[.int .i64 x.rate, .int .i64 x.burst, .int .i64 x.has, .int .i64 x.at'] 23) = w2 at *
    obtain ⟨c0, c1, c2, c3⟩ := blFour KX.out
    go_wp2_with fail
    refine (btake_any x now n y i2 .nilIface _ hn hk HY.out I2.out E2.out).mono ?_
    rintro e u3 ⟨rfl, q⟩
    clear c0 c1 c2 c3
    have b2 := (own4 u3 y).2
    have k2 := (own4 u3 y).1
    replace KB := hid ((KB.out.below q).below b2)
    replace KX := hid ((KX.out.below q).below b2)
    replace WW := hid ((grown_on WW.out q).trans (b2.mono (grown_on WW.out q).size))
    have KY := hid k2
    clear k2 b2 q
    go_upto_region 8 with fail
    generalize u3.alloc (.cells #[.int .i64 y.rate, .int .i64 y.burst, .int .i64 y.has, .int .i64 y.at'] 23) = w3 at *
    obtain ⟨c0, c1, c2, c3⟩ := blFour KB.out
    go_wp2_with fail
    refine (btake_any b now (m + n) z i3 .nilIface _ hn hs HZ.out I3.out E3.out).mono ?_
    rintro e u4 ⟨rfl, q⟩
    clear c0 c1 c2 c3
    have b2 := (own4 u4 z).2
    have k2 := (own4 u4 z).1
    replace KB := hid ((KB.out.below q).below b2)
    replace KX := hid ((KX.out.below q).below b2)
    replace KY := hid ((KY.out.below q).below b2)
    replace WW := hid ((grown_on WW.out q).trans (b2.mono (grown_on WW.out q).size))
    have KZ := hid k2
    clear k2 b2 q
    go_upto_region 9 with fail
    generalize u4.alloc (.cells #[.int .i64 z.rate, .int .i64 z.burst, .int .i64 z.has, .int .i64 z.at'] 23) = w4 at *

    clear KB KX I1 I2 I3 HX HY HZ E1 E2 E3
    by_cases h3 : i3 = true
    · have YZ := IH.out.2 h3
      have I12 := IH.out.1.2 h3
      obtain ⟨q1, q2⟩ := I12
      clear IH
      subst YZ h3 q1 q2
      obtain ⟨c0, c1, c2, c3⟩ := blFour KY.out
      obtain ⟨d0, d1, d2, d3⟩ := blFour KZ.out
      go_wp2_with fail
      go_ret
      exact ⟨rfl, WW.out⟩
    · have h4 : ¬ (i1 = true ∧ i2 = true) := fun q => h3 (IH.out.1.1 q)
      have h5 : i3 = false := by simpa using h3
      clear IH h3
      subst h5
      cases i1 with
      | false =>
        clear h4
        go_wp2_with fail
        go_ret
        exact ⟨rfl, WW.out⟩
      | true =>
        have h6 : i2 = false := by simpa using h4
        clear h4
        subst h6
        go_wp2_with fail
        go_ret
        exact ⟨rfl, WW.out⟩
  · have E1 : Hid (errV (takeE b now m) = .iface 37 (.int .i64 6)) := hid (by unfold takeE; rw [if_neg (fun q => h1 q.1)]; rfl)
    have E3 : Hid (errV (takeE b now (m + n)) = .iface 37 (.int .i64 6)) := hid (by unfold takeE; rw [if_neg (fun q => h1 q.1)]; rfl)
    obtain ⟨k, hk2⟩ : ∃ k, errV (takeE x now n) = k := ⟨_, rfl⟩
    have E2 := hid hk2
    clear hk2 h1 hx hy hz hi1 hi2 hi3
    obtain ⟨c0, c1, c2, c3⟩ := blFour KB.out
    go_wp2_with fail
    refine (btake_any b now m x i1 (.iface 37 (.int .i64 6)) _ hn hm HX.out I1.out E1.out).mono ?_
    rintro e u2 ⟨rfl, q⟩
    clear c0 c1 c2 c3
    have b2 := (own4 u2 x).2
    have k2 := (own4 u2 x).1
    replace KB := hid ((KB.out.below q).below b2)
    replace WW := hid ((grown_on WW.out q).trans (b2.mono (grown_on WW.out q).size))
    have KX := hid k2
    clear k2 b2 q
    go_upto_region 7 with fail
    generalize u2.alloc (.cells #[.int .i64 x.rate, .int .i64 x.burst, .int .i64 x.has, .int .i64 x.at'] 23) = w2 at *
    obtain ⟨c0, c1, c2, c3⟩ := blFour KX.out
    go_wp2_with fail
    refine (btake_any x now n y i2 k _ hn hk HY.out I2.out E2.out).mono ?_
    rintro e u3 ⟨rfl, q⟩
    clear c0 c1 c2 c3
    have b2 := (own4 u3 y).2
    have k2 := (own4 u3 y).1
    replace KB := hid ((KB.out.below q).below b2)
    replace KX := hid ((KX.out.below q).below b2)
    replace WW := hid ((grown_on WW.out q).trans (b2.mono (grown_on WW.out q).size))
    have KY := hid k2
    clear k2 b2 q
    go_upto_region 8 with fail
    generalize u3.alloc (.cells #[.int .i64 y.rate, .int .i64 y.burst, .int .i64 y.has, .int .i64 y.at'] 23) = w3 at *
    obtain ⟨c0, c1, c2, c3⟩ := blFour KB.out
    go_wp2_with fail
    refine (btake_any b now (m + n) z i3 (.iface 37 (.int .i64 6)) _ hn hs HZ.out I3.out E3.out).mono ?_
    rintro e u4 ⟨rfl, q⟩
    clear c0 c1 c2 c3
    have b2 := (own4 u4 z).2
    have k2 := (own4 u4 z).1
    replace KB := hid ((KB.out.below q).below b2)
    replace KX := hid ((KX.out.below q).below b2)
    replace KY := hid ((KY.out.below q).below b2)
    replace WW := hid ((grown_on WW.out q).trans (b2.mono (grown_on WW.out q).size))
    have KZ := hid k2
    clear k2 b2 q
    go_upto_region 9 with fail
    generalize u4.alloc (.cells #[.int .i64 z.rate, .int .i64 z.burst, .int .i64 z.has, .int .i64 z.at'] 23) = w4 at *

    go_wp2_with fail
    go_ret
    exact ⟨rfl, WW.out⟩

end Go.Proofs.Ytlmhcjkkdgdbjaa.Bu
