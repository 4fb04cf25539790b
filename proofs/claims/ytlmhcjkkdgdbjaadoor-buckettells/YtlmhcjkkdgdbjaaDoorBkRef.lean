/-
  The walks of the document's own answers on buckets: tick, BucketFault, Filled. Written by genbkref.py.
-/
import Derived.Test.YtlmhcjkkdgdbjaaDoorBkL
import Derived.Test.YtlmhcjkkdgdbjaaDoorRefFault
namespace Go.Proofs.YtlmhcjkkdgdbjaaDoor.Bu
open Go.RowKit Go.Deep

theorem tick_at (r : Bool) (n : Int) (w : World) (h : decide (tk n) = r) : Calls Tryd.prog 12 #[.int .i64 n] w fun e w' => e = .returned (.bool r) ∧ w = w' := by
  subst h
  by_cases c1 : 0 ≤ n
  · by_cases c2 : n ≤ 2147483647
    · rw [decide_eq_true (show tk n from ⟨c1, c2⟩)]
      go_enter Tryd.func12, Tryd.ntmps12
      go_wp2
      go_ret
      exact ⟨rfl, rfl⟩
    · rw [decide_eq_false (fun q : tk n => c2 q.2)]
      go_enter Tryd.func12, Tryd.ntmps12
      go_wp2
      go_ret
      exact ⟨rfl, rfl⟩
  · rw [decide_eq_false (fun q : tk n => c1 q.1)]
    go_enter Tryd.func12, Tryd.ntmps12
    go_wp2
    go_ret
    exact ⟨rfl, rfl⟩

set_option maxHeartbeats 2000000 in
set_option maxRecDepth 100000 in
theorem bfault_any (b : Bk) (k : Int) (w : World) (hk : okE b = k) :
    Calls Tryd.prog 6 #[bkV b] w fun e w' => e = .returned (.int .i64 k) ∧ Below w.heap.size w w' := by
  have B0 := hid ((Below.refl w.heap.size w).alloc (Nat.le_refl _) (.cells #[.int .i64 b.rate, .int .i64 b.burst, .int .i64 b.has, .int .i64 b.at'] 23))
  have C0 := Bl.new 23 w #[.int .i64 b.rate, .int .i64 b.burst, .int .i64 b.has, .int .i64 b.at']
  obtain ⟨W1, hW⟩ : ∃ W1, w.alloc (.cells #[.int .i64 b.rate, .int .i64 b.burst, .int .i64 b.has, .int .i64 b.at'] 23) = W1 := ⟨_, rfl⟩
  rw [hW] at B0 C0
  have HW := hid hW
  have HK := hid hk
  obtain ⟨c0, c1, c2, c3⟩ := blFour C0
  clear C0 hk hW
  by_cases h0 : tk b.rate
  rotate_left
  · have N := hid h0
    have E := hid (okE_first (b := b) (k := 0) (by omega) h0)
    clear h0
    go_enter Tryd.func6, Tryd.ntmps6
    go_upto_region 1 with fail
    rw [HW.out]
    go_wp2_with fail
    refine (tick_at false b.rate _ (decide_eq_false N.out)).mono ?_
    rintro e w1 ⟨rfl, rfl⟩
    go_wp2_with fail
    go_ret
    exact ⟨by rw [← HK.out, E.out]; rfl, B0.out⟩
  have H0 := hid h0
  clear h0
  by_cases h1 : tk b.burst
  rotate_left
  · have N := hid h1
    have E := hid (okE_first (b := b) (k := 1) (by omega) h1)
    clear h1
    go_enter Tryd.func6, Tryd.ntmps6
    go_upto_region 1 with fail
    rw [HW.out]
    go_wp2_with fail
    refine (tick_at true b.rate _ (decide_eq_true H0.out)).mono ?_
    rintro e w1 ⟨rfl, rfl⟩
    go_wp2_with fail
    refine (tick_at false b.burst _ (decide_eq_false N.out)).mono ?_
    rintro e w1 ⟨rfl, rfl⟩
    go_wp2_with fail
    go_ret
    exact ⟨by rw [← HK.out, E.out]; rfl, B0.out⟩
  have H1 := hid h1
  clear h1
  by_cases h2 : tk b.has
  rotate_left
  · have N := hid h2
    have E := hid (okE_first (b := b) (k := 2) (by omega) h2)
    clear h2
    go_enter Tryd.func6, Tryd.ntmps6
    go_upto_region 1 with fail
    rw [HW.out]
    go_wp2_with fail
    refine (tick_at true b.rate _ (decide_eq_true H0.out)).mono ?_
    rintro e w1 ⟨rfl, rfl⟩
    go_wp2_with fail
    refine (tick_at true b.burst _ (decide_eq_true H1.out)).mono ?_
    rintro e w1 ⟨rfl, rfl⟩
    go_wp2_with fail
    refine (tick_at false b.has _ (decide_eq_false N.out)).mono ?_
    rintro e w1 ⟨rfl, rfl⟩
    go_wp2_with fail
    go_ret
    exact ⟨by rw [← HK.out, E.out]; rfl, B0.out⟩
  have H2 := hid h2
  clear h2
  by_cases h3 : tk b.at'
  rotate_left
  · have N := hid h3
    have E := hid (okE_first (b := b) (k := 3) (by omega) h3)
    clear h3
    go_enter Tryd.func6, Tryd.ntmps6
    go_upto_region 1 with fail
    rw [HW.out]
    go_wp2_with fail
    refine (tick_at true b.rate _ (decide_eq_true H0.out)).mono ?_
    rintro e w1 ⟨rfl, rfl⟩
    go_wp2_with fail
    refine (tick_at true b.burst _ (decide_eq_true H1.out)).mono ?_
    rintro e w1 ⟨rfl, rfl⟩
    go_wp2_with fail
    refine (tick_at true b.has _ (decide_eq_true H2.out)).mono ?_
    rintro e w1 ⟨rfl, rfl⟩
    go_wp2_with fail
    refine (tick_at false b.at' _ (decide_eq_false N.out)).mono ?_
    rintro e w1 ⟨rfl, rfl⟩
    go_wp2_with fail
    go_ret
    exact ⟨by rw [← HK.out, E.out]; rfl, B0.out⟩
  have H3 := hid h3
  clear h3
  by_cases h : b.burst < b.has
  · have E : Hid (okE b = 6) := hid (by unfold okE; rw [if_neg]; rintro ⟨_, _, _, _, q⟩; omega)
    go_enter Tryd.func6, Tryd.ntmps6
    go_upto_region 1 with fail
    rw [HW.out]
    go_wp2_with fail
    refine (tick_at true b.rate _ (decide_eq_true H0.out)).mono ?_
    rintro e w1 ⟨rfl, rfl⟩
    go_wp2_with fail
    refine (tick_at true b.burst _ (decide_eq_true H1.out)).mono ?_
    rintro e w1 ⟨rfl, rfl⟩
    go_wp2_with fail
    refine (tick_at true b.has _ (decide_eq_true H2.out)).mono ?_
    rintro e w1 ⟨rfl, rfl⟩
    go_wp2_with fail
    refine (tick_at true b.at' _ (decide_eq_true H3.out)).mono ?_
    rintro e w1 ⟨rfl, rfl⟩
    go_wp2_with fail
    go_ret
    exact ⟨by rw [← HK.out, E.out]; rfl, B0.out⟩
  · have E : Hid (okE b = 0) := hid (by unfold okE; rw [if_pos]; exact ⟨H0.out, H1.out, H2.out, H3.out, by omega⟩)
    go_enter Tryd.func6, Tryd.ntmps6
    go_upto_region 1 with fail
    rw [HW.out]
    go_wp2_with fail
    refine (tick_at true b.rate _ (decide_eq_true H0.out)).mono ?_
    rintro e w1 ⟨rfl, rfl⟩
    go_wp2_with fail
    refine (tick_at true b.burst _ (decide_eq_true H1.out)).mono ?_
    rintro e w1 ⟨rfl, rfl⟩
    go_wp2_with fail
    refine (tick_at true b.has _ (decide_eq_true H2.out)).mono ?_
    rintro e w1 ⟨rfl, rfl⟩
    go_wp2_with fail
    refine (tick_at true b.at' _ (decide_eq_true H3.out)).mono ?_
    rintro e w1 ⟨rfl, rfl⟩
    go_wp2_with fail
    go_ret
    exact ⟨by rw [← HK.out, E.out]; rfl, B0.out⟩

theorem results_rfil (tmps : Array Value) (w : World) (b : Nat) (v0 v1 v2 v3 : Value) (hp : tmps.getD 4 undef = .pointer (some ⟨b, 0, none⟩)) (hb : Bl 23 w b #[v0, v1, v2, v3]) :
    (results Tryd.f7 tmps).run Tryd.prog w = .ok (.tuple #[.agg #[v0, v1, v2, v3], tmps.getD 5 undef]) w := by
  have c0 : w.cell? ⟨b, 0, none⟩ = some v0 := hb.cell (i := 0) rfl
  have c1 : w.cell? ⟨b, 1, none⟩ = some v1 := hb.cell (i := 1) rfl
  have c2 : w.cell? ⟨b, 2, none⟩ = some v2 := hb.cell (i := 2) rfl
  have c3 : w.cell? ⟨b, 3, none⟩ = some v3 := hb.cell (i := 3) rfl
  have hp' : tmps[4]?.getD undef = .pointer (some ⟨b, 0, none⟩) := by simpa using hp
  simp [results, Tryd.results7, go_sem, hp', c0, c1, c2, c3]

set_option maxHeartbeats 2000000 in
set_option maxRecDepth 100000 in
theorem rfil_any (b : Bk) (now : Int) (r : Bk) (k : Int) (w : World) (hn : wd now) (hr : fillR b now = r) (hk : fillE b now = k) :
    Calls Tryd.prog 7 #[bkV b, .int .i64 now] w fun e w' => e = .returned (.tuple #[bkV r, .int .i64 k]) ∧ Below w.heap.size w w' := by
  obtain ⟨k1, k2, k3⟩ := blTwo 23 23 w #[.int .i64 b.rate, .int .i64 b.burst, .int .i64 b.has, .int .i64 b.at'] #[.int .i64 0, .int .i64 0, .int .i64 0, .int .i64 0]
  obtain ⟨W1, hW⟩ : ∃ W1, (w.alloc (.cells #[.int .i64 b.rate, .int .i64 b.burst, .int .i64 b.has, .int .i64 b.at'] 23)).alloc (.cells #[.int .i64 0, .int .i64 0, .int .i64 0, .int .i64 0] 23) = W1 := ⟨_, rfl⟩
  rw [hW] at k1 k2 k3
  have K1 := hid k1
  have K2 := hid k2
  have K3 := hid k3
  have HW := hid hW
  have HK := hid hk
  have HR := hid hr
  obtain ⟨c0, c1, c2, c3⟩ := blFour k1
  clear k1 k2 k3 hW hk hr
  unfold wd at hn
  by_cases h1 : ok b
  · have E1 : Hid (okE b = 0) := hid (by unfold okE; rw [if_pos h1])
    by_cases h2 : b.at' ≤ now ∧ now ≤ 2147483647
    · have HF : Hid (fits b now) := hid ⟨h1, h2⟩
      obtain ⟨⟨r0, r1⟩, ⟨b0, b1⟩, ⟨x0, x1⟩, ⟨a0, a1⟩, hb⟩ := h1
      obtain ⟨h3, h4⟩ := h2
      obtain ⟨p0, p1⟩ := fits_word (r := b.rate) (d := now - b.at') ⟨r0, r1⟩ (by omega) (by omega)
      have E2 : Hid (k = 0) := hid (by rw [← HK.out]; unfold fillE; rw [if_pos HF.out])
      have E3 : Hid (r = fill b now) := hid (by rw [← HR.out]; unfold fillR; rw [if_pos HF.out])
      clear HK HR
      go_enter Tryd.func7, Tryd.ntmps7
      go_upto_region 1 with fail
      rw [HW.out]
      go_wp2_with fail
      refine (bfault_any b _ W1 E1.out).mono ?_
      rintro e w2 ⟨rfl, q2⟩
      have L1 := K1.out.below q2
      have L2 := K2.out.below q2
      have B2 := hid (K3.out.trans (q2.mono K3.out.size))
      obtain ⟨d0, d1, d2, d3⟩ := blFour L1
      obtain ⟨e0, e1, e2, e3⟩ := blFour L2
      obtain ⟨y0, y1, y2, y3⟩ := blFroz L2
      have M2 := hid L2
      clear L1 L2 q2 c0 c1 c2 c3
      by_cases hc : b.burst < b.has + b.rate * (now - b.at')
      · have E4 : Hid (hasAt b now = b.burst) := hid (by unfold hasAt; rw [if_pos hc])
        go_wp2_with fail
        refine bodyPost_ret (results_rfil _ _ (w.heap.size + 1) _ _ _ _ rfl (blPut4 M2.out _ _ _ _)) rfl ?_
        refine ⟨?_, belowPut4 B2.out (by omega) _ _ _ _⟩
        rw [E3.out, E2.out]
        unfold fill
        rw [E4.out]
        rfl
      · have E4 : Hid (hasAt b now = b.has + b.rate * (now - b.at')) := hid (by unfold hasAt; rw [if_neg hc])
        go_wp2_with fail
        refine bodyPost_ret (results_rfil _ _ (w.heap.size + 1) _ _ _ _ rfl (blPut4 M2.out _ _ _ _)) rfl ?_
        refine ⟨?_, belowPut4 B2.out (by omega) _ _ _ _⟩
        rw [E3.out, E2.out]
        unfold fill
        rw [E4.out]
        rfl
    · have HF : Hid (¬ fits b now) := hid (fun q => h2 q.2)
      have E2 : Hid (k = 6) := hid (by rw [← HK.out]; unfold fillE; rw [if_neg HF.out])
      have E3 : Hid (r = noB) := hid (by rw [← HR.out]; unfold fillR; rw [if_neg HF.out])
      have h3 : now < b.at' ∨ (¬ now < b.at' ∧ 2147483647 < now) := by omega
      clear HK HR h1 h2
      go_enter Tryd.func7, Tryd.ntmps7
      go_upto_region 1 with fail
      rw [HW.out]
      go_wp2_with fail
      refine (bfault_any b _ W1 E1.out).mono ?_
      rintro e w2 ⟨rfl, q2⟩
      have L1 := K1.out.below q2
      have L2 := K2.out.below q2
      have B2 := hid (K3.out.trans (q2.mono K3.out.size))
      obtain ⟨d0, d1, d2, d3⟩ := blFour L1
      obtain ⟨e0, e1, e2, e3⟩ := blFour L2
      obtain ⟨y0, y1, y2, y3⟩ := blFroz L2
      have M2 := hid L2
      clear L1 L2 q2 c0 c1 c2 c3
      rcases h3 with h3 | ⟨h4, h3⟩
      · go_wp2_with fail
        refine bodyPost_ret (results_rfil _ _ (w.heap.size + 1) _ _ _ _ rfl (blPut4 M2.out _ _ _ _)) rfl ?_
        refine ⟨?_, belowPut4 B2.out (by omega) _ _ _ _⟩
        rw [E3.out, E2.out]
        rfl
      · go_wp2_with fail
        refine bodyPost_ret (results_rfil _ _ (w.heap.size + 1) _ _ _ _ rfl (blPut4 M2.out _ _ _ _)) rfl ?_
        refine ⟨?_, belowPut4 B2.out (by omega) _ _ _ _⟩
        rw [E3.out, E2.out]
        rfl
  · have E1 : Hid (okE b = 6) := hid (by unfold okE; rw [if_neg h1])
    have HF : Hid (¬ fits b now) := hid (fun q => h1 q.1)
    have E2 : Hid (k = 6) := hid (by rw [← HK.out]; unfold fillE; rw [if_neg HF.out])
    have E3 : Hid (r = noB) := hid (by rw [← HR.out]; unfold fillR; rw [if_neg HF.out])
    clear HK HR h1
    go_enter Tryd.func7, Tryd.ntmps7
    go_upto_region 1 with fail
    rw [HW.out]
    go_wp2_with fail
    refine (bfault_any b _ W1 E1.out).mono ?_
    rintro e w2 ⟨rfl, q2⟩
    have L1 := K1.out.below q2
    have L2 := K2.out.below q2
    have B2 := hid (K3.out.trans (q2.mono K3.out.size))
    obtain ⟨e0, e1, e2, e3⟩ := blFour L2
    obtain ⟨y0, y1, y2, y3⟩ := blFroz L2
    have M2 := hid L2
    clear L1 L2 q2 c0 c1 c2 c3
    go_wp2_with fail
    refine bodyPost_ret (results_rfil _ _ (w.heap.size + 1) _ _ _ _ rfl (blPut4 M2.out _ _ _ _)) rfl ?_
    refine ⟨?_, belowPut4 B2.out (by omega) _ _ _ _⟩
    rw [E3.out, E2.out]
    rfl

end Go.Proofs.YtlmhcjkkdgdbjaaDoor.Bu
