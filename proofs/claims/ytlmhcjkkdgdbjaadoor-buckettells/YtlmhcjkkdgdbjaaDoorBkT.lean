/-
  The walk of package bucket: Take.
-/
import Derived.Test.YtlmhcjkkdgdbjaaDoorBkF
namespace Go.Proofs.YtlmhcjkkdgdbjaaDoor.Bu
open Go.RowKit Go.Deep

/-- What Take tells. -/
def takeR (b : Bk) (now n : Int) : Bk := if fits b now ∧ 0 ≤ n then take b now n else noB

/-- Was it taken? -/
def takeI (b : Bk) (now n : Int) : Bool := if fits b now ∧ 0 ≤ n then isT b now n else false

theorem results_take (tmps : Array Value) (w : World) (b : Nat) (v0 v1 v2 v3 : Value) (hp : tmps.getD 6 undef = .pointer (some ⟨b, 0, none⟩)) (hb : Bl 23 w b #[v0, v1, v2, v3]) :
    (results Tryd.f9 tmps).run Tryd.prog w = .ok (.tuple #[.agg #[v0, v1, v2, v3], tmps.getD 7 undef, tmps.getD 8 undef]) w := by
  have c0 : w.cell? ⟨b, 0, none⟩ = some v0 := hb.cell (i := 0) rfl
  have c1 : w.cell? ⟨b, 1, none⟩ = some v1 := hb.cell (i := 1) rfl
  have c2 : w.cell? ⟨b, 2, none⟩ = some v2 := hb.cell (i := 2) rfl
  have c3 : w.cell? ⟨b, 3, none⟩ = some v3 := hb.cell (i := 3) rfl
  have hp' : tmps[6]?.getD undef = .pointer (some ⟨b, 0, none⟩) := by simpa using hp
  simp [results, Tryd.results9, go_sem, hp', c0, c1, c2, c3]

theorem blFar4 {t : TypeId} {w : World} {b g : Nat} {C : Array Value} (h : Bl t w b C) (hg : ¬ b = g) (v0 v1 v2 v3 : Value) :
    Bl t ((((w.setCell ⟨g, 0, none⟩ v0).setCell ⟨g, 1, none⟩ v1).setCell ⟨g, 2, none⟩ v2).setCell ⟨g, 3, none⟩ v3) b C :=
  (((h.far (p := ⟨g, 0, none⟩) hg v0).far (p := ⟨g, 1, none⟩) hg v1).far (p := ⟨g, 2, none⟩) hg v2).far (p := ⟨g, 3, none⟩) hg v3

set_option maxHeartbeats 1000000 in
set_option maxRecDepth 100000 in
theorem btake_any (b : Bk) (now n : Int) (r : Bk) (i : Bool) (v : Value) (w : World) (hn : wd now) (hm : wd n) (hr : takeR b now n = r) (hi : takeI b now n = i) (hv : errV (takeE b now n) = v) :
    Calls Tryd.prog 9 #[bkV b, .int .i64 now, .int .i64 n] w fun e w' => e = .returned (.tuple #[bkV r, .bool i, v]) ∧ Below w.heap.size w w' := by
  obtain ⟨k1, k2, k3⟩ := blTwo 23 23 w #[.int .i64 b.rate, .int .i64 b.burst, .int .i64 b.has, .int .i64 b.at'] #[.int .i64 0, .int .i64 0, .int .i64 0, .int .i64 0]
  obtain ⟨W1, hW⟩ : ∃ W1, (w.alloc (.cells #[.int .i64 b.rate, .int .i64 b.burst, .int .i64 b.has, .int .i64 b.at'] 23)).alloc (.cells #[.int .i64 0, .int .i64 0, .int .i64 0, .int .i64 0] 23) = W1 := ⟨_, rfl⟩
  rw [hW] at k1 k2 k3
  have K1 := hid k1
  have K2 := hid k2
  have K3 := hid k3
  have HW := hid hW
  have HV := hid hv
  have HR := hid hr
  have HI := hid hi
  obtain ⟨c0, c1, c2, c3⟩ := blFour k1
  clear k1 k2 k3 hW hv hr hi
  have hn' := hn
  have hm' := hm
  unfold wd at hm
  by_cases h1 : fits b now
  · have E1 : Hid (errV (fillE b now) = .nilIface) := hid (by unfold fillE; rw [if_pos h1]; rfl)
    have E2 : Hid (fillR b now = fill b now) := hid (by unfold fillR; rw [if_pos h1])
    obtain ⟨g0, g1, g2⟩ := hasAt_bounds h1
    have ob := (fill_ok h1)
    have F3 : (fill b now).has = hasAt b now := rfl
    obtain ⟨f, hf⟩ : ∃ f, fill b now = f := ⟨_, rfl⟩
    have x1 : 0 ≤ f.has ∧ f.has ≤ 2147483647 := by rw [← hf]; exact ob.2.2.1
    rw [hf] at F3 E2
    have FF := hid F3
    have HFF := hid hf
    have HF := hid h1
    obtain ⟨x10, x11⟩ := x1
    clear g0 g1 g2 ob F3 hf h1
    go_enter Tryd.func9, Tryd.ntmps9
    go_upto_region 1 with fail
    rw [HW.out]
    go_wp2_with fail
    refine (bfill_any b now f _ W1 hn' E2.out E1.out).mono ?_
    rintro e w2 ⟨rfl, q2⟩
    have L1 := K1.out.below q2
    have L2 := K2.out.below q2
    have B2 := hid (K3.out.trans (q2.mono K3.out.size))
    obtain ⟨d0, d1, d2, d3⟩ := blFour L1
    obtain ⟨z0, z1, z2, z3⟩ := blFroz L1
    have N1 := hid (blPut4 L1 (.int .i64 f.rate) (.int .i64 f.burst) (.int .i64 f.has) (.int .i64 f.at'))
    have N2 := hid (blFar4 (g := w.heap.size) L2 (by omega) (.int .i64 f.rate) (.int .i64 f.burst) (.int .i64 f.has) (.int .i64 f.at'))
    have N3 := hid (belowPut4 B2.out (Nat.le_refl _) (.int .i64 f.rate) (.int .i64 f.burst) (.int .i64 f.has) (.int .i64 f.at'))
    clear L1 L2 q2 c0 c1 c2 c3 B2
    go_upto_region 2 with fail
    clear d0 d1 d2 d3 z0 z1 z2 z3
    generalize (((w2.setCell ⟨w.heap.size, 0, none⟩ (.int .i64 f.rate)).setCell ⟨w.heap.size, 1, none⟩ (.int .i64 f.burst)).setCell ⟨w.heap.size, 2, none⟩ (.int .i64 f.has)).setCell ⟨w.heap.size, 3, none⟩ (.int .i64 f.at') = w3 at *
    obtain ⟨d0, d1, d2, d3⟩ := blFour N1.out
    obtain ⟨z0, z1, z2, z3⟩ := blFroz N1.out
    obtain ⟨e0, e1, e2, e3⟩ := blFour N2.out
    obtain ⟨y0, y1, y2, y3⟩ := blFroz N2.out
    by_cases h2 : n < 0
    · have E4 : Hid (v = .iface 28 (.int .i64 6)) := hid (by rw [← HV.out]; unfold takeE; rw [if_neg (by omega)]; rfl)
      have E5 : Hid (r = noB) := hid (by rw [← HR.out]; unfold takeR; rw [if_neg (by omega)])
      have E6 : Hid (i = false) := hid (by rw [← HI.out]; unfold takeI; rw [if_neg (by omega)])
      clear HV HR HI
      go_wp2_with fail
      refine bodyPost_ret (results_take _ _ (w.heap.size + 1) _ _ _ _ rfl (blPut4 N2.out _ _ _ _)) rfl ?_
      refine ⟨?_, belowPut4 N3.out (by omega) _ _ _ _⟩
      rw [E4.out, E5.out, E6.out]
      rfl
    · have h3 : fits b now ∧ 0 ≤ n := ⟨HF.out, by omega⟩
      have E4 : Hid (v = .nilIface) := hid (by rw [← HV.out]; unfold takeE; rw [if_pos h3]; rfl)
      have E5 : Hid (r = take b now n) := hid (by rw [← HR.out]; unfold takeR; rw [if_pos h3])
      have E6 : Hid (i = decide (n ≤ f.has)) := hid (by rw [← HI.out]; unfold takeI isT; rw [if_pos h3, FF.out])
      clear HV HR HI h3
      by_cases h4 : f.has < n
      · have E7 : Hid (take b now n = f) := hid (by unfold take; rw [if_neg (by have := FF.out; omega), HFF.out])
        have h5 : decide (n ≤ f.has) = false := decide_eq_false (by omega)
        have E8 := hid h5
        clear h5
        go_wp2_with fail
        refine bodyPost_ret (results_take _ _ (w.heap.size + 1) _ _ _ _ rfl (blPut4 N2.out _ _ _ _)) rfl ?_
        refine ⟨?_, belowPut4 N3.out (by omega) _ _ _ _⟩
        rw [E4.out, E5.out, E6.out, E7.out, E8.out]
        rfl
      · have E7 : Hid (take b now n = ⟨f.rate, f.burst, f.has - n, f.at'⟩) := hid (by unfold take; rw [if_pos (by have := FF.out; omega), ← FF.out, ← HFF.out]; rfl)
        have E8 : Hid (decide (n ≤ f.has) = true) := hid (decide_eq_true (by omega))
        have N4 := hid (N2.out.far (p := ⟨w.heap.size, 2, none⟩) (by simp) (.int .i64 (f.has - n)))
        have N5 := hid (N3.out.setCell (p := ⟨w.heap.size, 2, none⟩) (Nat.le_refl _) (.int .i64 (f.has - n)))
        go_wp2_with fail
        refine bodyPost_ret (results_take _ _ (w.heap.size + 1) _ _ _ _ rfl (blPut4 N4.out _ _ _ _)) rfl ?_
        refine ⟨?_, belowPut4 N5.out (by omega) _ _ _ _⟩
        rw [E4.out, E5.out, E6.out, E7.out, E8.out]
        rfl
  · have E1 : Hid (errV (fillE b now) = .iface 28 (.int .i64 6)) := hid (by unfold fillE; rw [if_neg h1]; rfl)
    have E2 : Hid (fillR b now = noB) := hid (by unfold fillR; rw [if_neg h1])
    have h3 : ¬ (fits b now ∧ 0 ≤ n) := fun q => h1 q.1
    have E4 : Hid (v = .iface 28 (.int .i64 6)) := hid (by rw [← HV.out]; unfold takeE; rw [if_neg h3]; rfl)
    have E5 : Hid (r = noB) := hid (by rw [← HR.out]; unfold takeR; rw [if_neg h3])
    have E6 : Hid (i = false) := hid (by rw [← HI.out]; unfold takeI; rw [if_neg h3])
    clear h1 h3 HV HR HI
    go_enter Tryd.func9, Tryd.ntmps9
    go_upto_region 1 with fail
    rw [HW.out]
    go_wp2_with fail
    refine (bfill_any b now noB _ W1 hn' E2.out E1.out).mono ?_
    rintro e w2 ⟨rfl, q2⟩
    have L1 := K1.out.below q2
    have L2 := K2.out.below q2
    have B2 := hid (K3.out.trans (q2.mono K3.out.size))
    obtain ⟨d0, d1, d2, d3⟩ := blFour L1
    obtain ⟨z0, z1, z2, z3⟩ := blFroz L1
    have N1 := hid (blPut4 L1 (.int .i64 noB.rate) (.int .i64 noB.burst) (.int .i64 noB.has) (.int .i64 noB.at'))
    have N2 := hid (blFar4 (g := w.heap.size) L2 (by omega) (.int .i64 noB.rate) (.int .i64 noB.burst) (.int .i64 noB.has) (.int .i64 noB.at'))
    have N3 := hid (belowPut4 B2.out (Nat.le_refl _) (.int .i64 noB.rate) (.int .i64 noB.burst) (.int .i64 noB.has) (.int .i64 noB.at'))
    clear L1 L2 q2 c0 c1 c2 c3 B2
    go_upto_region 2 with fail
    clear d0 d1 d2 d3 z0 z1 z2 z3
    generalize (((w2.setCell ⟨w.heap.size, 0, none⟩ (.int .i64 noB.rate)).setCell ⟨w.heap.size, 1, none⟩ (.int .i64 noB.burst)).setCell ⟨w.heap.size, 2, none⟩ (.int .i64 noB.has)).setCell ⟨w.heap.size, 3, none⟩ (.int .i64 noB.at') = w3 at *
    obtain ⟨e0, e1, e2, e3⟩ := blFour N2.out
    obtain ⟨y0, y1, y2, y3⟩ := blFroz N2.out
    go_wp2_with fail
    refine bodyPost_ret (results_take _ _ (w.heap.size + 1) _ _ _ _ rfl (blPut4 N2.out _ _ _ _)) rfl ?_
    refine ⟨?_, belowPut4 N3.out (by omega) _ _ _ _⟩
    rw [E4.out, E5.out, E6.out]
    rfl

end Go.Proofs.YtlmhcjkkdgdbjaaDoor.Bu
