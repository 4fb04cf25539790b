/-
  The walk of the law BucketWaits.
-/
import Derived.Test.YtlmhcjkkdgdbjaaBkL
namespace Go.Proofs.Ytlmhcjkkdgdbjaa.Bu
open Go.RowKit Go.Deep

set_option maxHeartbeats 2000000 in
set_option maxRecDepth 100000 in
theorem bwaits_walk (b : Bk) (c now later : Int) (w : World) (_hb : Wds b) (_hc : wd c) (hn : wd now) (hl : wd later) :
    Calls Try.prog 4 #[bkV b, .int .i64 c, .int .i64 now, .int .i64 later] w fun e w' => e = .returned (.bool true) ∧ Below w.heap.size w w' := by
  obtain ⟨x, hx⟩ : ∃ x, fillR b now = x := ⟨_, rfl⟩
  obtain ⟨y, hy⟩ : ∃ y, fillR x later = y := ⟨_, rfl⟩
  obtain ⟨z, hz⟩ : ∃ z, fillR b later = z := ⟨_, rfl⟩
  have HX := hid hx
  have HY := hid hy
  have HZ := hid hz
  clear hx hy hz
  by_cases h1 : fits b now
  · have E1 : Hid (errV (fillE b now) = .nilIface) := hid (by unfold fillE; rw [if_pos h1]; rfl)
    have X1 : x = fill b now := by rw [← HX.out]; unfold fillR; rw [if_pos h1]
    by_cases h2 : fits x later
    · have E2 : Hid (errV (fillE x later) = .nilIface) := hid (by unfold fillE; rw [if_pos h2]; rfl)
      have FF := fill_fill h1 (by rw [← X1]; exact h2)
      have E3 : Hid (errV (fillE b later) = .nilIface) := hid (by unfold fillE; rw [if_pos FF.1]; rfl)
      have Z1 : z = fill b later := by rw [← HZ.out]; unfold fillR; rw [if_pos FF.1]
      have YZ : y = z := by rw [← HY.out]; unfold fillR; rw [if_pos h2, X1, FF.2, Z1]
      have ZH : Hid (z.has = hasAt b later) := hid (by rw [Z1]; rfl)
      have FB := hid FF.1
      clear FF Z1 X1 h1 h2
      subst YZ
      obtain ⟨more, hmore⟩ : ∃ more : Bk, (⟨b.rate, b.burst, c, b.at'⟩ : Bk) = more := ⟨_, rfl⟩
      obtain ⟨v, hv⟩ : ∃ v, fillR more later = v := ⟨_, rfl⟩
      have HM := hid hmore
      have HVV := hid hv
      clear hmore hv
      have W0 := (Below.refl w.heap.size w).alloc (Nat.le_refl _) (.cells #[.int .i64 b.rate, .int .i64 b.burst, .int .i64 b.has, .int .i64 b.at'] 23)
      have K0 := Bl.new 23 w #[.int .i64 b.rate, .int .i64 b.burst, .int .i64 b.has, .int .i64 b.at']
      have WW := hid W0
      have KB := hid K0
      clear W0 K0
      go_enter Try.func4, Try.ntmps4
      go_upto_region 1 with fail
      generalize w.alloc (.cells #[.int .i64 b.rate, .int .i64 b.burst, .int .i64 b.has, .int .i64 b.at'] 23) = w0 at *
      go_wp2_with fail
      refine (filled_any w0).mono ?_
      rintro e w1 ⟨rfl, q⟩
      replace KB := hid (KB.out.below q)
      replace WW := hid (grown_on WW.out q)
      clear q
      go_upto_region 4 with fail
      obtain ⟨c0, c1, c2, c3⟩ := blFour KB.out
      go_wp2_with fail
      refine (bfill_any b now x .nilIface _ hn HX.out E1.out).mono ?_
      rintro e u2 ⟨rfl, q⟩
      clear c0 c1 c2 c3
      have b2 := (own4 u2 x).2
      have k2 := (own4 u2 x).1
      replace KB := hid ((KB.out.below q).below b2)
      replace WW := hid ((grown_on WW.out q).trans (b2.mono (grown_on WW.out q).size))
      have KX := hid k2
      clear k2 b2 q
      go_upto_region 5 with fail
      generalize u2.alloc (.cells #[.int .i64 x.rate, .int .i64 x.burst, .int .i64 x.has, .int .i64 x.at'] 23) = w2 at *
      obtain ⟨c0, c1, c2, c3⟩ := blFour KX.out
      go_wp2_with fail
      refine (bfill_any x later y .nilIface _ hl HY.out E2.out).mono ?_
      rintro e u3 ⟨rfl, q⟩
      clear c0 c1 c2 c3
      have b2 := (own4 u3 y).2
      have k2 := (own4 u3 y).1
      replace KB := hid ((KB.out.below q).below b2)
      replace KX := hid ((KX.out.below q).below b2)
      replace WW := hid ((grown_on WW.out q).trans (b2.mono (grown_on WW.out q).size))
      have KY := hid k2
      clear k2 b2 q
      go_upto_region 6 with fail
      generalize u3.alloc (.cells #[.int .i64 y.rate, .int .i64 y.burst, .int .i64 y.has, .int .i64 y.at'] 23) = w3 at *
      obtain ⟨c0, c1, c2, c3⟩ := blFour KB.out
      go_wp2_with fail
      refine (bfill_any b later y .nilIface _ hl HZ.out E3.out).mono ?_
      rintro e u4 ⟨rfl, q⟩
      clear c0 c1 c2 c3
      have b2 := (own4 u4 y).2
      have k2 := (own4 u4 y).1
      replace KB := hid ((KB.out.below q).below b2)
      replace KX := hid ((KX.out.below q).below b2)
      replace KY := hid ((KY.out.below q).below b2)
      replace WW := hid ((grown_on WW.out q).trans (b2.mono (grown_on WW.out q).size))
      have KZ := hid k2
      clear k2 b2 q
      go_upto_region 7 with fail
      generalize u4.alloc (.cells #[.int .i64 y.rate, .int .i64 y.burst, .int .i64 y.has, .int .i64 y.at'] 23) = w4 at *

      obtain ⟨a0, a1, a2, a3⟩ := blFour KY.out
      obtain ⟨d0, d1, d2, d3⟩ := blFour KZ.out
      go_upto_region 11 with fail
      clear a0 a1 a2 a3 d0 d1 d2 d3
      obtain ⟨c0, c1, c2, c3⟩ := blFour KB.out
      go_upto_region 13 with fail
      have b5 := (own4 w4 ⟨b.rate, b.burst, c, b.at'⟩).2
      have k5 := (own4 w4 ⟨b.rate, b.burst, c, b.at'⟩).1
      replace KB := hid (KB.out.below b5)
      replace KZ := hid (KZ.out.below b5)
      replace WW := hid (WW.out.trans (b5.mono WW.out.size))
      have KM := hid k5
      clear b5 k5 c0 c1 c2 c3 KX KY
      generalize w4.alloc (.cells #[.int .i64 b.rate, .int .i64 b.burst, .int .i64 c, .int .i64 b.at'] 23) = w5 at *
      by_cases h3 : fits ⟨b.rate, b.burst, c, b.at'⟩ later
      · have E4 : Hid (errV (fillE ⟨b.rate, b.burst, c, b.at'⟩ later) = .nilIface) := hid (by unfold fillE; rw [if_pos h3]; rfl)
        have VV : Hid (b.has ≤ c → y.has ≤ v.has) := hid (fun q => by
          have := fill_more (l := later) q
          rw [ZH.out, ← HVV.out, ← HM.out]
          unfold fillR
          rw [if_pos h3]
          exact this)
        clear h3
        have HV2 : Hid (fillR ⟨b.rate, b.burst, c, b.at'⟩ later = v) := hid (by rw [HM.out]; exact HVV.out)
        obtain ⟨c0, c1, c2, c3⟩ := blFour KM.out
        go_wp2_with fail
        refine (bfill_any ⟨b.rate, b.burst, c, b.at'⟩ later v .nilIface _ hl HV2.out E4.out).mono ?_
        rintro e u6 ⟨rfl, q⟩
        clear c0 c1 c2 c3
        have b2 := (own4 u6 v).2
        have k2 := (own4 u6 v).1
        replace KB := hid ((KB.out.below q).below b2)
        replace KZ := hid ((KZ.out.below q).below b2)
        replace WW := hid ((grown_on WW.out q).trans (b2.mono (grown_on WW.out q).size))
        have KV := hid k2
        clear k2 b2 q
        go_upto_region 14 with fail
        generalize u6.alloc (.cells #[.int .i64 v.rate, .int .i64 v.burst, .int .i64 v.has, .int .i64 v.at'] 23) = w6 at *
        obtain ⟨c0, c1, c2, c3⟩ := blFour KB.out
        obtain ⟨d0, d1, d2, d3⟩ := blFour KZ.out
        obtain ⟨e0, e1, e2, e3⟩ := blFour KV.out
        clear c0 c1 c3 d0 d1 d3 e0 e1 e3
        by_cases hcb : c < b.has
        · go_wp2_with fail
          go_ret
          exact ⟨rfl, WW.out⟩
        · have VG := VV.out (by omega)
          clear VV
          go_wp2_with fail
          go_ret
          exact ⟨rfl, WW.out⟩
      · have E4 : Hid (errV (fillE ⟨b.rate, b.burst, c, b.at'⟩ later) = .iface 37 (.int .i64 6)) := hid (by unfold fillE; rw [if_neg h3]; rfl)
        clear h3
        have HV2 : Hid (fillR ⟨b.rate, b.burst, c, b.at'⟩ later = v) := hid (by rw [HM.out]; exact HVV.out)
        obtain ⟨c0, c1, c2, c3⟩ := blFour KM.out
        go_wp2_with fail
        refine (bfill_any ⟨b.rate, b.burst, c, b.at'⟩ later v (.iface 37 (.int .i64 6)) _ hl HV2.out E4.out).mono ?_
        rintro e u6 ⟨rfl, q⟩
        clear c0 c1 c2 c3
        have b2 := (own4 u6 v).2
        have k2 := (own4 u6 v).1
        replace KB := hid ((KB.out.below q).below b2)
        replace KZ := hid ((KZ.out.below q).below b2)
        replace WW := hid ((grown_on WW.out q).trans (b2.mono (grown_on WW.out q).size))
        have KV := hid k2
        clear k2 b2 q
        go_upto_region 14 with fail
        generalize u6.alloc (.cells #[.int .i64 v.rate, .int .i64 v.burst, .int .i64 v.has, .int .i64 v.at'] 23) = w6 at *
        go_wp2_with fail
        go_ret
        exact ⟨rfl, WW.out⟩
    · have E2 : Hid (errV (fillE x later) = .iface 37 (.int .i64 6)) := hid (by unfold fillE; rw [if_neg h2]; rfl)
      clear X1 h1 h2
      obtain ⟨k, hk⟩ : ∃ k, errV (fillE b later) = k := ⟨_, rfl⟩
      have E3 := hid hk
      clear hk
      have W0 := (Below.refl w.heap.size w).alloc (Nat.le_refl _) (.cells #[.int .i64 b.rate, .int .i64 b.burst, .int .i64 b.has, .int .i64 b.at'] 23)
      have K0 := Bl.new 23 w #[.int .i64 b.rate, .int .i64 b.burst, .int .i64 b.has, .int .i64 b.at']
      have WW := hid W0
      have KB := hid K0
      clear W0 K0
      go_enter Try.func4, Try.ntmps4
      go_upto_region 1 with fail
      generalize w.alloc (.cells #[.int .i64 b.rate, .int .i64 b.burst, .int .i64 b.has, .int .i64 b.at'] 23) = w0 at *
      go_wp2_with fail
      refine (filled_any w0).mono ?_
      rintro e w1 ⟨rfl, q⟩
      replace KB := hid (KB.out.below q)
      replace WW := hid (grown_on WW.out q)
      clear q
      go_upto_region 4 with fail
      obtain ⟨c0, c1, c2, c3⟩ := blFour KB.out
      go_wp2_with fail
      refine (bfill_any b now x .nilIface _ hn HX.out E1.out).mono ?_
      rintro e u2 ⟨rfl, q⟩
      clear c0 c1 c2 c3
      have b2 := (own4 u2 x).2
      have k2 := (own4 u2 x).1
      replace KB := hid ((KB.out.below q).below b2)
      replace WW := hid ((grown_on WW.out q).trans (b2.mono (grown_on WW.out q).size))
      have KX := hid k2
      clear k2 b2 q
      go_upto_region 5 with fail
      generalize u2.alloc (.cells #[.int .i64 x.rate, .int .i64 x.burst, .int .i64 x.has, .int .i64 x.at'] 23) = w2 at *
      obtain ⟨c0, c1, c2, c3⟩ := blFour KX.out
      go_wp2_with fail
      refine (bfill_any x later y (.iface 37 (.int .i64 6)) _ hl HY.out E2.out).mono ?_
      rintro e u3 ⟨rfl, q⟩
      clear c0 c1 c2 c3
      have b2 := (own4 u3 y).2
      have k2 := (own4 u3 y).1
      replace KB := hid ((KB.out.below q).below b2)
      replace KX := hid ((KX.out.below q).below b2)
      replace WW := hid ((grown_on WW.out q).trans (b2.mono (grown_on WW.out q).size))
      have KY := hid k2
      clear k2 b2 q
      go_upto_region 6 with fail
      generalize u3.alloc (.cells #[.int .i64 y.rate, .int .i64 y.burst, .int .i64 y.has, .int .i64 y.at'] 23) = w3 at *
      obtain ⟨c0, c1, c2, c3⟩ := blFour KB.out
      go_wp2_with fail
      refine (bfill_any b later z k _ hl HZ.out E3.out).mono ?_
      rintro e u4 ⟨rfl, q⟩
      clear c0 c1 c2 c3
      have b2 := (own4 u4 z).2
      have k2 := (own4 u4 z).1
      replace KB := hid ((KB.out.below q).below b2)
      replace KX := hid ((KX.out.below q).below b2)
      replace KY := hid ((KY.out.below q).below b2)
      replace WW := hid ((grown_on WW.out q).trans (b2.mono (grown_on WW.out q).size))
      have KZ := hid k2
      clear k2 b2 q
      go_upto_region 7 with fail
      generalize u4.alloc (.cells #[.int .i64 z.rate, .int .i64 z.burst, .int .i64 z.has, .int .i64 z.at'] 23) = w4 at *

      go_wp2_with fail
      go_ret
      exact ⟨rfl, WW.out⟩
  · have E1 : Hid (errV (fillE b now) = .iface 37 (.int .i64 6)) := hid (by unfold fillE; rw [if_neg h1]; rfl)
    clear h1
    obtain ⟨k, hk⟩ : ∃ k, errV (fillE b later) = k := ⟨_, rfl⟩
    have E3 := hid hk
    clear hk
    obtain ⟨k2, hk2⟩ : ∃ k, errV (fillE x later) = k := ⟨_, rfl⟩
    have E2 := hid hk2
    clear hk2
    have W0 := (Below.refl w.heap.size w).alloc (Nat.le_refl _) (.cells #[.int .i64 b.rate, .int .i64 b.burst, .int .i64 b.has, .int .i64 b.at'] 23)
    have K0 := Bl.new 23 w #[.int .i64 b.rate, .int .i64 b.burst, .int .i64 b.has, .int .i64 b.at']
    have WW := hid W0
    have KB := hid K0
    clear W0 K0
    go_enter Try.func4, Try.ntmps4
    go_upto_region 1 with fail
    generalize w.alloc (.cells #[.int .i64 b.rate, .int .i64 b.burst, .int .i64 b.has, .int .i64 b.at'] 23) = w0 at *
    go_wp2_with fail
    refine (filled_any w0).mono ?_
    rintro e w1 ⟨rfl, q⟩
    replace KB := hid (KB.out.below q)
    replace WW := hid (grown_on WW.out q)
    clear q
    go_upto_region 4 with fail
    obtain ⟨c0, c1, c2, c3⟩ := blFour KB.out
    go_wp2_with fail
    refine (bfill_any b now x (.iface 37 (.int .i64 6)) _ hn HX.out E1.out).mono ?_
    rintro e u2 ⟨rfl, q⟩
    clear c0 c1 c2 c3
    have b2 := (own4 u2 x).2
    have k2 := (own4 u2 x).1
    replace KB := hid ((KB.out.below q).below b2)
    replace WW := hid ((grown_on WW.out q).trans (b2.mono (grown_on WW.out q).size))
    have KX := hid k2
    clear k2 b2 q
    go_upto_region 5 with fail
    generalize u2.alloc (.cells #[.int .i64 x.rate, .int .i64 x.burst, .int .i64 x.has, .int .i64 x.at'] 23) = w2 at *
    obtain ⟨c0, c1, c2, c3⟩ := blFour KX.out
    go_wp2_with fail
    refine (bfill_any x later y k2 _ hl HY.out E2.out).mono ?_
    rintro e u3 ⟨rfl, q⟩
    clear c0 c1 c2 c3
    have b2 := (own4 u3 y).2
    have k2 := (own4 u3 y).1
    replace KB := hid ((KB.out.below q).below b2)
    replace KX := hid ((KX.out.below q).below b2)
    replace WW := hid ((grown_on WW.out q).trans (b2.mono (grown_on WW.out q).size))
    have KY := hid k2
    clear k2 b2 q
    go_upto_region 6 with fail
    generalize u3.alloc (.cells #[.int .i64 y.rate, .int .i64 y.burst, .int .i64 y.has, .int .i64 y.at'] 23) = w3 at *
    obtain ⟨c0, c1, c2, c3⟩ := blFour KB.out
    go_wp2_with fail
    refine (bfill_any b later z k _ hl HZ.out E3.out).mono ?_
    rintro e u4 ⟨rfl, q⟩
    clear c0 c1 c2 c3
    have b2 := (own4 u4 z).2
    have k2 := (own4 u4 z).1
    replace KB := hid ((KB.out.below q).below b2)
    replace KX := hid ((KX.out.below q).below b2)
    replace KY := hid ((KY.out.below q).below b2)
    replace WW := hid ((grown_on WW.out q).trans (b2.mono (grown_on WW.out q).size))
    have KZ := hid k2
    clear k2 b2 q
    go_upto_region 7 with fail
    generalize u4.alloc (.cells #[.int .i64 z.rate, .int .i64 z.burst, .int .i64 z.has, .int .i64 z.at'] 23) = w4 at *

    go_wp2_with fail
    go_ret
    exact ⟨rfl, WW.out⟩

end Go.Proofs.Ytlmhcjkkdgdbjaa.Bu
