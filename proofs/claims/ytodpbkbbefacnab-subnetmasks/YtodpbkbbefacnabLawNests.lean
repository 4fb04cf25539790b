/-
  The walk of the law SubnetNests.
-/
import Derived.Test.YtodpbkbbefacnabSubIn
namespace Go.Proofs.Ytodpbkbbefacnab
open Go.RowKit Go.Deep

theorem fact_masked : maskN 9 [255, 255] = [255, 128] := by decide

set_option maxHeartbeats 1000000 in
set_option maxRecDepth 100000 in
theorem smasked_ok (w : World) : Calls Try.prog 7 #[] w fun e w' => e = .returned (.bool true) ∧ Below w.heap.size w w' := by
  go_enter Try.func7, Try.ntmps7
  go_wp2_with fail
  refine (mask_good 9 [255, 255] _ (bys_new w [255, 255] (by decide) (by decide)) (fun q => by cases q) (by decide) (by decide) rfl).mono ?_
  rintro e w1 ⟨g, rfl, k1, d1⟩
  have e9 : maskN (Int.toNat 9) [255, 255] = [255, 128] := fact_masked
  rw [e9] at k1
  have B1 := hid (grown_on ((Below.refl _ w).alloc (Nat.le_refl _) _) d1)
  have K1 := hid k1
  clear d1 k1 e9
  go_wp2_with fail
  refine (bytes_at true _ _ _ (K1.out.below ((Below.refl _ _).alloc (Nat.le_refl _) _)) (bys_new w1 [255, 128] (by decide) (by decide)) rfl rfl rfl).mono ?_
  rintro e w2 ⟨rfl, d2⟩
  have B2 := hid (grown_on (B1.out.alloc B1.out.size _) d2)
  clear d2
  go_wp2_with fail
  go_ret
  exact ⟨rfl, B2.out⟩

theorem in_nests {a b : List Int} {s t : Sn} (h : s.src ≤ t.src) (h1 : inN a s) (h2 : inN a t) (h3 : inN b t) : inN b s := by
  obtain ⟨p1, p2, p3⟩ := h1
  obtain ⟨q1, q2, q3⟩ := h2
  obtain ⟨r1, r2, r3⟩ := h3
  have f1 := (snE_zero p1).2.2.1
  refine ⟨p1, by omega, ?_⟩
  rw [← p3]
  exact mask_less (m := t.src.toNat) (r3.trans q3.symm) (by omega)

set_option maxHeartbeats 1000000 in
set_option maxRecDepth 100000 in
theorem nests_walk {xs xt xa xb : Option Addr} {cs ct ca cb ls lt la lb : Nat} (s t : Sn) (a b : List Int) (w : World) (hs : Bys w xs cs s.A) (ht : Bys w xt ct t.A) (ha : Bys w xa ca a) (hb : Bys w xb cb b)
    (hls : s.A.length = ls) (hlt : t.A.length = lt) (hla : a.length = la) (hlb : b.length = lb) :
    Calls Try.prog 5 #[.agg #[.int .i64 s.fam, .int .i64 s.src, .int .i64 s.scp, .slice xs ls cs], .agg #[.int .i64 t.fam, .int .i64 t.src, .int .i64 t.scp, .slice xt lt ct], .slice xa la ca, .slice xb lb cb] w fun e w' => e = .returned (.bool true) ∧ Below w.heap.size w w' := by
  have B0 : Below w.heap.size w ((w.alloc (.cells #[.int .i64 s.fam, .int .i64 s.src, .int .i64 s.scp, .slice xs ls cs] 30)).alloc (.cells #[.int .i64 t.fam, .int .i64 t.src, .int .i64 t.scp, .slice xt lt ct] 30)) := ((Below.refl w.heap.size w).alloc (Nat.le_refl _) _).alloc (by simp) _
  have K1 : Bl 30 (w.alloc (.cells #[.int .i64 s.fam, .int .i64 s.src, .int .i64 s.scp, .slice xs ls cs] 30)) w.heap.size #[.int .i64 s.fam, .int .i64 s.src, .int .i64 s.scp, .slice xs ls cs] := Bl.new _ _ _
  have K2 : Bl 30 ((w.alloc (.cells #[.int .i64 s.fam, .int .i64 s.src, .int .i64 s.scp, .slice xs ls cs] 30)).alloc (.cells #[.int .i64 t.fam, .int .i64 t.src, .int .i64 t.scp, .slice xt lt ct] 30)) (w.heap.size + 1) #[.int .i64 t.fam, .int .i64 t.src, .int .i64 t.scp, .slice xt lt ct] := by
    have := Bl.new 30 (w.alloc (.cells #[.int .i64 s.fam, .int .i64 s.src, .int .i64 s.scp, .slice xs ls cs] 30)) #[.int .i64 t.fam, .int .i64 t.src, .int .i64 t.scp, .slice xt lt ct]
    rwa [World.size_alloc] at this
  have K1' := K1.below ((Below.refl _ _).alloc (Nat.le_refl _) (.cells #[.int .i64 t.fam, .int .i64 t.src, .int .i64 t.scp, .slice xt lt ct] 30))
  have HK1 := hid K1'
  have HK2 := hid K2
  have HB0 := hid B0
  clear K1 K1' K2 B0
  go_enter Try.func5, Try.ntmps5
  go_wp2_with fail
  refine (smasked_ok _).mono ?_
  rintro e w1 ⟨rfl, d1⟩
  have B1 := hid (grown_on HB0.out d1)
  have J1 := HK1.out.below d1
  have J2 := HK2.out.below d1
  have s0 := J1.cell (i := 0) rfl
  have s1 := J1.cell (i := 1) rfl
  have s2 := J1.cell (i := 2) rfl
  have s3 := J1.cell (i := 3) rfl
  have t0 := J2.cell (i := 0) rfl
  have t1 := J2.cell (i := 1) rfl
  have t2 := J2.cell (i := 2) rfl
  have t3 := J2.cell (i := 3) rfl
  have G1 := hid J1
  have G2 := hid J2
  clear J1 J2 d1 HK1 HK2 HB0
  by_cases c1 : t.src < s.src
  · go_wp2_with fail
    go_ret
    exact ⟨rfl, B1.out⟩
  · go_wp2_with fail
    by_cases c2 : inN a s
    · refine (in_at true a s w1 (ha.below B1.out) (hs.below B1.out) hla hls (decide_eq_true c2)).mono ?_
      rintro e w2 ⟨rfl, d2⟩
      have B2 := hid (grown_on B1.out d2)
      have J1 := G1.out.below d2
      have J2 := G2.out.below d2
      clear s0 s1 s2 s3 t0 t1 t2 t3
      have s0 := J1.cell (i := 0) rfl
      have s1 := J1.cell (i := 1) rfl
      have s2 := J1.cell (i := 2) rfl
      have s3 := J1.cell (i := 3) rfl
      have t0 := J2.cell (i := 0) rfl
      have t1 := J2.cell (i := 1) rfl
      have t2 := J2.cell (i := 2) rfl
      have t3 := J2.cell (i := 3) rfl
      have F1 := hid J1
      have F2 := hid J2
      clear J1 J2 d2 G1 G2
      go_wp2_with fail
      by_cases c3 : inN a t
      · refine (in_at true a t w2 (ha.below B2.out) (ht.below B2.out) hla hlt (decide_eq_true c3)).mono ?_
        rintro e w3 ⟨rfl, d3⟩
        have B3 := hid (grown_on B2.out d3)
        have J1 := F1.out.below d3
        have J2 := F2.out.below d3
        clear s0 s1 s2 s3 t0 t1 t2 t3
        have s0 := J1.cell (i := 0) rfl
        have s1 := J1.cell (i := 1) rfl
        have s2 := J1.cell (i := 2) rfl
        have s3 := J1.cell (i := 3) rfl
        have t0 := J2.cell (i := 0) rfl
        have t1 := J2.cell (i := 1) rfl
        have t2 := J2.cell (i := 2) rfl
        have t3 := J2.cell (i := 3) rfl
        have G1 := hid J1
        clear J1 J2 d3 F1 F2
        go_wp2_with fail
        by_cases c4 : inN b t
        · refine (in_at true b t w3 (hb.below B3.out) (ht.below B3.out) hlb hlt (decide_eq_true c4)).mono ?_
          rintro e w4 ⟨rfl, d4⟩
          have B4 := hid (grown_on B3.out d4)
          have J1 := G1.out.below d4
          clear s0 s1 s2 s3 t0 t1 t2 t3
          have s0 := J1.cell (i := 0) rfl
          have s1 := J1.cell (i := 1) rfl
          have s2 := J1.cell (i := 2) rfl
          have s3 := J1.cell (i := 3) rfl
          have c5 := hid (in_nests (by omega) c2 c3 c4)
          clear J1 d4 G1
          go_wp2_with fail
          refine (in_at true b s w4 (hb.below B4.out) (hs.below B4.out) hlb hls (decide_eq_true c5.out)).mono ?_
          rintro e w5 ⟨rfl, d5⟩
          have B5 := hid (grown_on B4.out d5)
          clear d5
          go_wp2_with fail
          go_ret
          exact ⟨rfl, B5.out⟩
        · refine (in_at false b t w3 (hb.below B3.out) (ht.below B3.out) hlb hlt (decide_eq_false c4)).mono ?_
          rintro e w4 ⟨rfl, d4⟩
          have B4 := hid (grown_on B3.out d4)
          clear d4
          go_wp2_with fail
          go_ret
          exact ⟨rfl, B4.out⟩
      · refine (in_at false a t w2 (ha.below B2.out) (ht.below B2.out) hla hlt (decide_eq_false c3)).mono ?_
        rintro e w3 ⟨rfl, d3⟩
        have B3 := hid (grown_on B2.out d3)
        clear d3
        go_wp2_with fail
        go_ret
        exact ⟨rfl, B3.out⟩
    · refine (in_at false a s w1 (ha.below B1.out) (hs.below B1.out) hla hls (decide_eq_false c2)).mono ?_
      rintro e w2 ⟨rfl, d2⟩
      have B2 := hid (grown_on B1.out d2)
      clear d2
      go_wp2_with fail
      go_ret
      exact ⟨rfl, B2.out⟩

end Go.Proofs.Ytodpbkbbefacnab
