/-
  The walks of package bucket: Fill, Take.
-/
import Derived.Test.YtlmhcjkkdgdbjaaDoorBkW
namespace Go.Proofs.YtlmhcjkkdgdbjaaDoor.Bu
open Go.RowKit Go.Deep

/-- No bucket. -/
def noB : Bk := ⟨0, 0, 0, 0⟩

/-- What Fill tells. -/
def fillR (b : Bk) (now : Int) : Bk := if fits b now then fill b now else noB

theorem results_fill (tmps : Array Value) (w : World) (b : Nat) (v0 v1 v2 v3 : Value) (hp : tmps.getD 4 undef = .pointer (some ⟨b, 0, none⟩)) (hb : Bl 23 w b #[v0, v1, v2, v3]) :
    (results Tryd.f8 tmps).run Tryd.prog w = .ok (.tuple #[.agg #[v0, v1, v2, v3], tmps.getD 5 undef]) w := by
  have c0 : w.cell? ⟨b, 0, none⟩ = some v0 := hb.cell (i := 0) rfl
  have c1 : w.cell? ⟨b, 1, none⟩ = some v1 := hb.cell (i := 1) rfl
  have c2 : w.cell? ⟨b, 2, none⟩ = some v2 := hb.cell (i := 2) rfl
  have c3 : w.cell? ⟨b, 3, none⟩ = some v3 := hb.cell (i := 3) rfl
  have hp' : tmps[4]?.getD undef = .pointer (some ⟨b, 0, none⟩) := by simpa using hp
  simp [results, Tryd.results8, go_sem, hp', c0, c1, c2, c3]

theorem blPut4 {t : TypeId} {w : World} {b : Nat} {u0 u1 u2 u3 : Value} (h : Bl t w b #[u0, u1, u2, u3]) (v0 v1 v2 v3 : Value) :
    Bl t ((((w.setCell ⟨b, 0, none⟩ v0).setCell ⟨b, 1, none⟩ v1).setCell ⟨b, 2, none⟩ v2).setCell ⟨b, 3, none⟩ v3) b #[v0, v1, v2, v3] := by
  have h1 : Bl t (w.setCell ⟨b, 0, none⟩ v0) b #[v0, u1, u2, u3] := h.set 0 v0
  have h2 : Bl t ((w.setCell ⟨b, 0, none⟩ v0).setCell ⟨b, 1, none⟩ v1) b #[v0, v1, u2, u3] := h1.set 1 v1
  have h3 : Bl t (((w.setCell ⟨b, 0, none⟩ v0).setCell ⟨b, 1, none⟩ v1).setCell ⟨b, 2, none⟩ v2) b #[v0, v1, v2, u3] := h2.set 2 v2
  exact h3.set 3 v3

theorem belowPut4 {B b : Nat} {w w' : World} (h : Below B w w') (hb : B ≤ b) (v0 v1 v2 v3 : Value) :
    Below B w ((((w'.setCell ⟨b, 0, none⟩ v0).setCell ⟨b, 1, none⟩ v1).setCell ⟨b, 2, none⟩ v2).setCell ⟨b, 3, none⟩ v3) :=
  (((h.setCell (p := ⟨b, 0, none⟩) hb _).setCell (p := ⟨b, 1, none⟩) hb _).setCell (p := ⟨b, 2, none⟩) hb _).setCell (p := ⟨b, 3, none⟩) hb _

theorem blTwo (t t2 : TypeId) (w : World) (C D : Array Value) : Bl t ((w.alloc (.cells C t)).alloc (.cells D t2)) w.heap.size C ∧ Bl t2 ((w.alloc (.cells C t)).alloc (.cells D t2)) (w.heap.size + 1) D ∧ Below w.heap.size w ((w.alloc (.cells C t)).alloc (.cells D t2)) := by
  refine ⟨(Bl.new t w C).below ((Below.refl _ _).alloc (Nat.le_refl _) _), ?_, ((Below.refl _ w).alloc (Nat.le_refl _) _).alloc (by simp) _⟩
  have := Bl.new t2 (w.alloc (.cells C t)) D
  rwa [World.size_alloc] at this

theorem blFour {t : TypeId} {w : World} {b : Nat} {v0 v1 v2 v3 : Value} (h : Bl t w b #[v0, v1, v2, v3]) : w.cell? ⟨b, 0, none⟩ = some v0 ∧ w.cell? ⟨b, 1, none⟩ = some v1 ∧ w.cell? ⟨b, 2, none⟩ = some v2 ∧ w.cell? ⟨b, 3, none⟩ = some v3 :=
  ⟨h.cell (i := 0) rfl, h.cell (i := 1) rfl, h.cell (i := 2) rfl, h.cell (i := 3) rfl⟩

theorem blFroz {t : TypeId} {w : World} {b : Nat} {C : Array Value} (h : Bl t w b C) : w.frozen? ⟨b, 0, none⟩ = false ∧ w.frozen? ⟨b, 1, none⟩ = false ∧ w.frozen? ⟨b, 2, none⟩ = false ∧ w.frozen? ⟨b, 3, none⟩ = false :=
  ⟨h.frozen 0, h.frozen 1, h.frozen 2, h.frozen 3⟩

set_option maxHeartbeats 1000000 in
set_option maxRecDepth 100000 in
theorem bfill_any (b : Bk) (now : Int) (r : Bk) (v : Value) (w : World) (hn : wd now) (hr : fillR b now = r) (hv : errV (fillE b now) = v) :
    Calls Tryd.prog 8 #[bkV b, .int .i64 now] w fun e w' => e = .returned (.tuple #[bkV r, v]) ∧ Below w.heap.size w w' := by
  obtain ⟨k1, k2, k3⟩ := blTwo 23 23 w #[.int .i64 b.rate, .int .i64 b.burst, .int .i64 b.has, .int .i64 b.at'] #[.int .i64 0, .int .i64 0, .int .i64 0, .int .i64 0]
  obtain ⟨W1, hW⟩ : ∃ W1, (w.alloc (.cells #[.int .i64 b.rate, .int .i64 b.burst, .int .i64 b.has, .int .i64 b.at'] 23)).alloc (.cells #[.int .i64 0, .int .i64 0, .int .i64 0, .int .i64 0] 23) = W1 := ⟨_, rfl⟩
  rw [hW] at k1 k2 k3
  have K1 := hid k1
  have K2 := hid k2
  have K3 := hid k3
  have HW := hid hW
  have HV := hid hv
  have HR := hid hr
  obtain ⟨c0, c1, c2, c3⟩ := blFour k1
  clear k1 k2 k3 hW hv hr
  have hn' := hn
  unfold wd at hn
  by_cases h1 : ok b
  · have E1 : Hid (errV (okE b) = .nilIface) := hid (by unfold okE; rw [if_pos h1]; rfl)
    by_cases h2 : b.at' ≤ now ∧ now ≤ 2147483647
    · have HF : Hid (fits b now) := hid ⟨h1, h2⟩
      obtain ⟨⟨r0, r1⟩, ⟨b0, b1⟩, ⟨x0, x1⟩, ⟨a0, a1⟩, hb⟩ := h1
      obtain ⟨h3, h4⟩ := h2
      obtain ⟨p0, p1⟩ := fits_word (r := b.rate) (d := now - b.at') ⟨r0, r1⟩ (by omega) (by omega)
      have HA : Hid (hasAt b now = hasAt b now) := hid rfl
      have E2 : Hid (v = .nilIface) := hid (by rw [← HV.out]; unfold fillE; rw [if_pos HF.out]; rfl)
      have E3 : Hid (r = fill b now) := hid (by rw [← HR.out]; unfold fillR; rw [if_pos HF.out])
      clear HV HR
      go_enter Tryd.func8, Tryd.ntmps8
      go_upto_region 1 with fail
      rw [HW.out]
      go_wp2_with fail
      refine (bcheck_any b _ W1 E1.out).mono ?_
      rintro e w2 ⟨rfl, q2⟩
      have L1 := K1.out.below q2
      have L2 := K2.out.below q2
      have B2 := hid (K3.out.trans (q2.mono K3.out.size))
      obtain ⟨d0, d1, d2, d3⟩ := blFour L1
      obtain ⟨z0, z1, z2, z3⟩ := blFroz L1
      obtain ⟨e0, e1, e2, e3⟩ := blFour L2
      obtain ⟨y0, y1, y2, y3⟩ := blFroz L2
      have M1 := hid L1
      have M2 := hid L2
      clear L1 L2 q2 c0 c1 c2 c3
      by_cases hc : b.burst < b.has + b.rate * (now - b.at')
      · have E4 : Hid (hasAt b now = b.burst) := hid (by unfold hasAt; rw [if_pos hc])
        have M3 := hid (((M2.out).far (p := ⟨w.heap.size, 2, none⟩) (by simp) (.int .i64 b.burst)).far (p := ⟨w.heap.size, 3, none⟩) (by simp) (.int .i64 now))
        have B3 := hid (((B2.out).setCell (p := ⟨w.heap.size, 2, none⟩) (Nat.le_refl _) (.int .i64 b.burst)).setCell (p := ⟨w.heap.size, 3, none⟩) (Nat.le_refl _) (.int .i64 now))
        go_wp2_with fail
        refine bodyPost_ret (results_fill _ _ (w.heap.size + 1) _ _ _ _ rfl (blPut4 M3.out _ _ _ _)) rfl ?_
        refine ⟨?_, belowPut4 B3.out (by omega) _ _ _ _⟩
        rw [E3.out, E2.out]
        unfold fill
        rw [E4.out]
        rfl
      · have E4 : Hid (hasAt b now = b.has + b.rate * (now - b.at')) := hid (by unfold hasAt; rw [if_neg hc])
        have M3 := hid (((M2.out).far (p := ⟨w.heap.size, 2, none⟩) (by simp) (.int .i64 (b.has + b.rate * (now - b.at')))).far (p := ⟨w.heap.size, 3, none⟩) (by simp) (.int .i64 now))
        have B3 := hid (((B2.out).setCell (p := ⟨w.heap.size, 2, none⟩) (Nat.le_refl _) (.int .i64 (b.has + b.rate * (now - b.at')))).setCell (p := ⟨w.heap.size, 3, none⟩) (Nat.le_refl _) (.int .i64 now))
        go_wp2_with fail
        refine bodyPost_ret (results_fill _ _ (w.heap.size + 1) _ _ _ _ rfl (blPut4 M3.out _ _ _ _)) rfl ?_
        refine ⟨?_, belowPut4 B3.out (by omega) _ _ _ _⟩
        rw [E3.out, E2.out]
        unfold fill
        rw [E4.out]
        rfl
    · have HF : Hid (¬ fits b now) := hid (fun q => h2 q.2)
      have E2 : Hid (v = .iface 28 (.int .i64 6)) := hid (by rw [← HV.out]; unfold fillE; rw [if_neg HF.out]; rfl)
      have E3 : Hid (r = noB) := hid (by rw [← HR.out]; unfold fillR; rw [if_neg HF.out])
      have h3 : now < b.at' ∨ (¬ now < b.at' ∧ 2147483647 < now) := by omega
      clear HV HR h1 h2
      go_enter Tryd.func8, Tryd.ntmps8
      go_upto_region 1 with fail
      rw [HW.out]
      go_wp2_with fail
      refine (bcheck_any b _ W1 E1.out).mono ?_
      rintro e w2 ⟨rfl, q2⟩
      have L1 := K1.out.below q2
      have L2 := K2.out.below q2
      have B2 := hid (K3.out.trans (q2.mono K3.out.size))
      obtain ⟨d0, d1, d2, d3⟩ := blFour L1
      obtain ⟨e0, e1, e2, e3⟩ := blFour L2
      obtain ⟨y0, y1, y2, y3⟩ := blFroz L2
      have M2 := hid L2
      clear L1 L2 q2 c0 c1 c2 c3
      rcases h3 with h3 | ⟨h4, h3⟩
      · go_wp2_with fail
        refine bodyPost_ret (results_fill _ _ (w.heap.size + 1) _ _ _ _ rfl (blPut4 M2.out _ _ _ _)) rfl ?_
        refine ⟨?_, belowPut4 B2.out (by omega) _ _ _ _⟩
        rw [E3.out, E2.out]
        rfl
      · go_wp2_with fail
        refine bodyPost_ret (results_fill _ _ (w.heap.size + 1) _ _ _ _ rfl (blPut4 M2.out _ _ _ _)) rfl ?_
        refine ⟨?_, belowPut4 B2.out (by omega) _ _ _ _⟩
        rw [E3.out, E2.out]
        rfl
  · have E1 : Hid (errV (okE b) = .iface 28 (.int .i64 6)) := hid (by unfold okE; rw [if_neg h1]; rfl)
    have HF : Hid (¬ fits b now) := hid (fun q => h1 q.1)
    have E2 : Hid (v = .iface 28 (.int .i64 6)) := hid (by rw [← HV.out]; unfold fillE; rw [if_neg HF.out]; rfl)
    have E3 : Hid (r = noB) := hid (by rw [← HR.out]; unfold fillR; rw [if_neg HF.out])
    clear HV HR h1
    go_enter Tryd.func8, Tryd.ntmps8
    go_upto_region 1 with fail
    rw [HW.out]
    go_wp2_with fail
    refine (bcheck_any b _ W1 E1.out).mono ?_
    rintro e w2 ⟨rfl, q2⟩
    have L2 := K2.out.below q2
    have B2 := hid (K3.out.trans (q2.mono K3.out.size))
    obtain ⟨e0, e1, e2, e3⟩ := blFour L2
    obtain ⟨y0, y1, y2, y3⟩ := blFroz L2
    have M2 := hid L2
    clear L2 q2 c0 c1 c2 c3
    go_wp2_with fail
    refine bodyPost_ret (results_fill _ _ (w.heap.size + 1) _ _ _ _ rfl (blPut4 M2.out _ _ _ _)) rfl ?_
    refine ⟨?_, belowPut4 B2.out (by omega) _ _ _ _⟩
    rw [E3.out, E2.out]
    rfl

end Go.Proofs.YtlmhcjkkdgdbjaaDoor.Bu
