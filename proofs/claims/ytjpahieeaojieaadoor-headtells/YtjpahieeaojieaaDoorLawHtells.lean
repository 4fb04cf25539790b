/-
  The walk of the law HeadTells over its callees' contracts: for any header and any bytes it hands back true, and writes nothing that was there.
-/
import Derived.Test.YtjpahieeaojieaaDoorRefHead
import Derived.Test.YtjpahieeaojieaaDoorRefFault
import Derived.Test.YtjpahieeaojieaaDoorMsgBytes
namespace Go.Proofs.YtjpahieeaojieaaDoor
open Go.RowKit Go.Deep

theorem hd_vars (i t : Int) : ∃ (id op code : Int) (an aa tc rd ra z ad cd : Bool), hdOf i t = .agg #[.int .i64 id, .bool an, .int .i64 op, .bool aa, .bool tc, .bool rd, .bool ra, .bool z, .bool ad, .bool cd, .int .i64 code] := ⟨_, _, _, _, _, _, _, _, _, _, _, rfl⟩

set_option maxHeartbeats 4000000 in
set_option maxRecDepth 100000 in
theorem htells_walk {x : Option Addr} {c l : Nat} (id op code : Int) (an aa tc rd ra z ad cd : Bool) (ms : List Int) (w : World) (h : Bys w x c ms) (hl : ms.length = l) (hg : Glob w) :
    Calls Tryd.prog 3 #[.agg #[.int .i64 id, .bool an, .int .i64 op, .bool aa, .bool tc, .bool rd, .bool ra, .bool z, .bool ad, .bool cd, .int .i64 code], .slice x l c] w fun e w' => e = .returned (.bool true) ∧ Below w.heap.size w w' := by
  subst hl
  have hlen : ms.length ≤ 200000000000000 := h.2.1
  go_enter Tryd.func3, Tryd.ntmps3
  go_wp2_with fail
  have B0 : Below w.heap.size w _ := (Below.refl _ w).alloc (Nat.le_refl _) (.cells #[.int .i64 id, .bool an, .int .i64 op, .bool aa, .bool tc, .bool rd, .bool ra, .bool z, .bool ad, .bool cd, .int .i64 code] 23)
  have K0 := Blk.new w #[.int .i64 id, .bool an, .int .i64 op, .bool aa, .bool tc, .bool rd, .bool ra, .bool z, .bool ad, .bool cd, .int .i64 code]
  by_cases hok : (0 ≤ id ∧ id ≤ 65535) ∧ (0 ≤ op ∧ op ≤ 15) ∧ (0 ≤ code ∧ code ≤ 15)
  · obtain ⟨⟨hi0, hi1⟩, ⟨ho0, ho1⟩, hc0, hc1⟩ := hok
    refine (hfault_good id op code an aa tc rd ra z ad cd _ hi0 hi1 ho0 ho1 hc0 hc1).mono ?_
    rintro e w1 ⟨rfl, d1⟩
    have B1 := hid (grown_on B0 d1)
    have K1 := K0.below d1
    clear d1 B0 K0
    have c0 := K1.cell (i := 0) rfl
    have c1 := K1.cell (i := 1) rfl
    have c2 := K1.cell (i := 2) rfl
    have c3 := K1.cell (i := 3) rfl
    have c4 := K1.cell (i := 4) rfl
    have c5 := K1.cell (i := 5) rfl
    have c6 := K1.cell (i := 6) rfl
    have c7 := K1.cell (i := 7) rfl
    have c8 := K1.cell (i := 8) rfl
    have c9 := K1.cell (i := 9) rfl
    have c10 := K1.cell (i := 10) rfl
    go_wp2_with fail
    refine (hbytes_good id op code an aa tc rd ra z ad cd _ hi0 hi1 ho0 ho1 hc0 hc1).mono ?_
    rintro e w2 ⟨g2, rfl, s2, d2, _⟩
    have B2 := hid (grown_on B1.out d2)
    have K2 := K1.below d2
    have S2 := hid s2
    clear d2 B1 K1 s2 c0 c1 c2 c3 c4 c5 c6 c7 c8 c9 c10
    have c0 := K2.cell (i := 0) rfl
    have c1 := K2.cell (i := 1) rfl
    have c2 := K2.cell (i := 2) rfl
    have c3 := K2.cell (i := 3) rfl
    have c4 := K2.cell (i := 4) rfl
    have c5 := K2.cell (i := 5) rfl
    have c6 := K2.cell (i := 6) rfl
    have c7 := K2.cell (i := 7) rfl
    have c8 := K2.cell (i := 8) rfl
    have c9 := K2.cell (i := 9) rfl
    have c10 := K2.cell (i := 10) rfl
    go_wp2_with fail
    refine (hwrite_good id op code an aa tc rd ra z ad cd _ hi0 hi1 ho0 ho1 hc0 hc1).mono ?_
    rintro e w3 ⟨gx3, gc3, rfl, _, s3, d3⟩
    have B3 := hid (grown_on B2.out d3)
    have S3 := hid s3
    have T3 := hid (S2.out.below d3)
    clear d3 B2 K2 S2 s3 c0 c1 c2 c3 c4 c5 c6 c7 c8 c9 c10
    go_wp2_with fail
    refine (error_at 0 0 _ _ (hg.below B3.out) rfl rfl).mono ?_
    rintro e w4 ⟨rfl, d4⟩
    have B4 := hid (grown_on B3.out d4)
    have S4 := hid (S3.out.below d4)
    have T4 := hid (T3.out.below d4)
    clear d4 B3 S3 T3
    go_wp2_with fail
    refine (bytes_at true _ _ _ S4.out T4.out rfl rfl (by simp)).mono ?_
    rintro e w5 ⟨rfl, d5⟩
    have B5 := hid (grown_on B4.out d5)
    clear d5 B4 S4 T4
    have hbw : w.heap.size ≤ w5.heap.size := B5.out.size
    have B6 := hid (B5.out.alloc B5.out.size (.cells #[.int .i64 0, .bool false, .int .i64 0, .bool false, .bool false, .bool false, .bool false, .bool false, .bool false, .bool false, .int .i64 0] 23))
    have K6 := hid (Blk.new w5 #[.int .i64 0, .bool false, .int .i64 0, .bool false, .bool false, .bool false, .bool false, .bool false, .bool false, .bool false, .int .i64 0])
    by_cases h4 : ms.length < 4
    · have h4' : (ms.length : Int) < 4 := by omega
      go_wp2_with fail
      refine (hread_short x c ms.length _ h4).mono ?_
      rintro e w7 ⟨rfl, d7⟩
      have B7 := hid (grown_on B6.out d7)
      have K7 := hid (K6.out.below d7)
      clear d7 K6 B6
      go_wp2_with fail
      refine (error_at 2 2 _ _ (hg.below (B7.out.alloc B7.out.size _)) rfl rfl).mono ?_
      rintro e w8 ⟨rfl, d8⟩
      have B8 := hid (grown_on (B7.out.alloc B7.out.size _) d8)
      have K8 := (K7.out.below ((Below.refl _ _).alloc (Nat.le_refl _) _)).below d8
      have Y8 := (Blk.new w7 #[.int .i64 0, .bool false, .int .i64 0, .bool false, .bool false, .bool false, .bool false, .bool false, .bool false, .bool false, .int .i64 0]).below d8
      clear d8 K7 B7
      have c0 := K8.cell (i := 0) rfl
      have c1 := K8.cell (i := 1) rfl
      have c2 := K8.cell (i := 2) rfl
      have c3 := K8.cell (i := 3) rfl
      have c4 := K8.cell (i := 4) rfl
      have c5 := K8.cell (i := 5) rfl
      have c6 := K8.cell (i := 6) rfl
      have c7 := K8.cell (i := 7) rfl
      have c8 := K8.cell (i := 8) rfl
      have c9 := K8.cell (i := 9) rfl
      have c10 := K8.cell (i := 10) rfl
      have y0 := Y8.cell (i := 0) rfl
      have y1 := Y8.cell (i := 1) rfl
      have y2 := Y8.cell (i := 2) rfl
      have y3 := Y8.cell (i := 3) rfl
      have y4 := Y8.cell (i := 4) rfl
      have y5 := Y8.cell (i := 5) rfl
      have y6 := Y8.cell (i := 6) rfl
      have y7 := Y8.cell (i := 7) rfl
      have y8 := Y8.cell (i := 8) rfl
      have y9 := Y8.cell (i := 9) rfl
      have y10 := Y8.cell (i := 10) rfl
      go_wp2_with fail
      go_ret
      exact ⟨rfl, B8.out⟩
    · have h4' : ¬ (ms.length : Int) < 4 := by omega
      obtain ⟨id', op', code', an', aa', tc', rd', ra', z', ad', cd', hV⟩ := hd_vars (ms.getD 0 0 * 256 + ms.getD 1 0) (ms.getD 2 0 * 256 + ms.getD 3 0)
      have F1 := hof_any x c ms _ (h.below B6.out) (by omega)
      rw [hV] at F1
      have FF := hid F1
      clear F1
      go_wp2_with fail
      refine FF.out.mono ?_
      rintro e w7 ⟨rfl, d7⟩
      have B7 := hid (grown_on B6.out d7)
      have K7 := hid (K6.out.below d7)
      clear d7 K6 B6 FF
      have c0 := K7.out.cell (i := 0) rfl
      have c1 := K7.out.cell (i := 1) rfl
      have c2 := K7.out.cell (i := 2) rfl
      have c3 := K7.out.cell (i := 3) rfl
      have c4 := K7.out.cell (i := 4) rfl
      have c5 := K7.out.cell (i := 5) rfl
      have c6 := K7.out.cell (i := 6) rfl
      have c7 := K7.out.cell (i := 7) rfl
      have c8 := K7.out.cell (i := 8) rfl
      have c9 := K7.out.cell (i := 9) rfl
      have c10 := K7.out.cell (i := 10) rfl
      have s0 := K7.out.frozen 0
      have s1 := K7.out.frozen 1
      have s2 := K7.out.frozen 2
      have s3 := K7.out.frozen 3
      have s4 := K7.out.frozen 4
      have s5 := K7.out.frozen 5
      have s6 := K7.out.frozen 6
      have s7 := K7.out.frozen 7
      have s8 := K7.out.frozen 8
      have s9 := K7.out.frozen 9
      have s10 := K7.out.frozen 10
      go_wp2_with fail
      have E : Blk (((((((((((w7.setCell ⟨w5.heap.size, 0, none⟩ (.int .i64 id')).setCell ⟨w5.heap.size, 1, none⟩ (.bool an')).setCell ⟨w5.heap.size, 2, none⟩ (.int .i64 op')).setCell ⟨w5.heap.size, 3, none⟩ (.bool aa')).setCell ⟨w5.heap.size, 4, none⟩ (.bool tc')).setCell ⟨w5.heap.size, 5, none⟩ (.bool rd')).setCell ⟨w5.heap.size, 6, none⟩ (.bool ra')).setCell ⟨w5.heap.size, 7, none⟩ (.bool z')).setCell ⟨w5.heap.size, 8, none⟩ (.bool ad')).setCell ⟨w5.heap.size, 9, none⟩ (.bool cd')).setCell ⟨w5.heap.size, 10, none⟩ (.int .i64 code')) w5.heap.size #[.int .i64 id', .bool an', .int .i64 op', .bool aa', .bool tc', .bool rd', .bool ra', .bool z', .bool ad', .bool cd', .int .i64 code'] := by
        have := (((((((((((K7.out.set 0 (.int .i64 id')).set 1 (.bool an')).set 2 (.int .i64 op')).set 3 (.bool aa')).set 4 (.bool tc')).set 5 (.bool rd')).set 6 (.bool ra')).set 7 (.bool z')).set 8 (.bool ad')).set 9 (.bool cd')).set 10 (.int .i64 code'))
        simpa using this
      have F : Below w.heap.size w (((((((((((w7.setCell ⟨w5.heap.size, 0, none⟩ (.int .i64 id')).setCell ⟨w5.heap.size, 1, none⟩ (.bool an')).setCell ⟨w5.heap.size, 2, none⟩ (.int .i64 op')).setCell ⟨w5.heap.size, 3, none⟩ (.bool aa')).setCell ⟨w5.heap.size, 4, none⟩ (.bool tc')).setCell ⟨w5.heap.size, 5, none⟩ (.bool rd')).setCell ⟨w5.heap.size, 6, none⟩ (.bool ra')).setCell ⟨w5.heap.size, 7, none⟩ (.bool z')).setCell ⟨w5.heap.size, 8, none⟩ (.bool ad')).setCell ⟨w5.heap.size, 9, none⟩ (.bool cd')).setCell ⟨w5.heap.size, 10, none⟩ (.int .i64 code')) := (((((((((((B7.out.setCell (p := ⟨w5.heap.size, 0, none⟩) hbw (.int .i64 id')).setCell (p := ⟨w5.heap.size, 1, none⟩) hbw (.bool an')).setCell (p := ⟨w5.heap.size, 2, none⟩) hbw (.int .i64 op')).setCell (p := ⟨w5.heap.size, 3, none⟩) hbw (.bool aa')).setCell (p := ⟨w5.heap.size, 4, none⟩) hbw (.bool tc')).setCell (p := ⟨w5.heap.size, 5, none⟩) hbw (.bool rd')).setCell (p := ⟨w5.heap.size, 6, none⟩) hbw (.bool ra')).setCell (p := ⟨w5.heap.size, 7, none⟩) hbw (.bool z')).setCell (p := ⟨w5.heap.size, 8, none⟩) hbw (.bool ad')).setCell (p := ⟨w5.heap.size, 9, none⟩) hbw (.bool cd')).setCell (p := ⟨w5.heap.size, 10, none⟩) hbw (.int .i64 code'))
      clear c0 c1 c2 c3 c4 c5 c6 c7 c8 c9 c10 s0 s1 s2 s3 s4 s5 s6 s7 s8 s9 s10 K7 B7
      generalize (((((((((((w7.setCell ⟨w5.heap.size, 0, none⟩ (.int .i64 id')).setCell ⟨w5.heap.size, 1, none⟩ (.bool an')).setCell ⟨w5.heap.size, 2, none⟩ (.int .i64 op')).setCell ⟨w5.heap.size, 3, none⟩ (.bool aa')).setCell ⟨w5.heap.size, 4, none⟩ (.bool tc')).setCell ⟨w5.heap.size, 5, none⟩ (.bool rd')).setCell ⟨w5.heap.size, 6, none⟩ (.bool ra')).setCell ⟨w5.heap.size, 7, none⟩ (.bool z')).setCell ⟨w5.heap.size, 8, none⟩ (.bool ad')).setCell ⟨w5.heap.size, 9, none⟩ (.bool cd')).setCell ⟨w5.heap.size, 10, none⟩ (.int .i64 code')) = w8 at *
      have E8 := hid E
      have F8 := hid F
      clear E F
      have F2 := hread_good x c ms w8 (h.below F8.out) (by omega)
      rw [hV] at F2
      refine F2.mono ?_
      rintro e w9 ⟨rfl, d9⟩
      have B9 := hid (grown_on F8.out d9)
      have K9 := hid (E8.out.below d9)
      clear d9 F2 E8 F8
      go_wp2_with fail
      refine (error_at 0 0 _ _ (hg.below (B9.out.alloc B9.out.size _)) rfl rfl).mono ?_
      rintro e w10 ⟨rfl, d10⟩
      have B10 := hid (grown_on (B9.out.alloc B9.out.size _) d10)
      have K10 := (K9.out.below ((Below.refl _ _).alloc (Nat.le_refl _) _)).below d10
      have Y10 := (Blk.new w9 #[.int .i64 id', .bool an', .int .i64 op', .bool aa', .bool tc', .bool rd', .bool ra', .bool z', .bool ad', .bool cd', .int .i64 code']).below d10
      clear d10 K9 B9
      have c0 := K10.cell (i := 0) rfl
      have c1 := K10.cell (i := 1) rfl
      have c2 := K10.cell (i := 2) rfl
      have c3 := K10.cell (i := 3) rfl
      have c4 := K10.cell (i := 4) rfl
      have c5 := K10.cell (i := 5) rfl
      have c6 := K10.cell (i := 6) rfl
      have c7 := K10.cell (i := 7) rfl
      have c8 := K10.cell (i := 8) rfl
      have c9 := K10.cell (i := 9) rfl
      have c10 := K10.cell (i := 10) rfl
      have y0 := Y10.cell (i := 0) rfl
      have y1 := Y10.cell (i := 1) rfl
      have y2 := Y10.cell (i := 2) rfl
      have y3 := Y10.cell (i := 3) rfl
      have y4 := Y10.cell (i := 4) rfl
      have y5 := Y10.cell (i := 5) rfl
      have y6 := Y10.cell (i := 6) rfl
      have y7 := Y10.cell (i := 7) rfl
      have y8 := Y10.cell (i := 8) rfl
      have y9 := Y10.cell (i := 9) rfl
      have y10 := Y10.cell (i := 10) rfl
      go_wp2_with fail
      go_ret
      exact ⟨rfl, B10.out⟩
  · refine (hfault_bad id op code an aa tc rd ra z ad cd _ hok).mono ?_
    rintro e w1 ⟨rfl, d1⟩
    have B1 := hid (grown_on B0 d1)
    have K1 := K0.below d1
    clear d1 B0 K0
    have c0 := K1.cell (i := 0) rfl
    have c1 := K1.cell (i := 1) rfl
    have c2 := K1.cell (i := 2) rfl
    have c3 := K1.cell (i := 3) rfl
    have c4 := K1.cell (i := 4) rfl
    have c5 := K1.cell (i := 5) rfl
    have c6 := K1.cell (i := 6) rfl
    have c7 := K1.cell (i := 7) rfl
    have c8 := K1.cell (i := 8) rfl
    have c9 := K1.cell (i := 9) rfl
    have c10 := K1.cell (i := 10) rfl
    go_wp2_with fail
    refine (hwrite_bad id op code an aa tc rd ra z ad cd _ hok).mono ?_
    rintro e w3 ⟨rfl, d3⟩
    have B3 := hid (grown_on B1.out d3)
    clear d3 B1 K1 c0 c1 c2 c3 c4 c5 c6 c7 c8 c9 c10
    go_wp2_with fail
    refine (error_at 6 6 _ _ (hg.below B3.out) rfl rfl).mono ?_
    rintro e w4 ⟨rfl, d4⟩
    have B4 := hid (grown_on B3.out d4)
    clear d4 B3
    go_wp2_with fail
    refine (bytes_at true [] [] _ (Bys.nil _ none 0) (Bys.nil _ none 0) rfl rfl rfl).mono ?_
    rintro e w5 ⟨rfl, d5⟩
    have B5 := hid (grown_on B4.out d5)
    clear d5 B4
    have hbw : w.heap.size ≤ w5.heap.size := B5.out.size
    have B6 := hid (B5.out.alloc B5.out.size (.cells #[.int .i64 0, .bool false, .int .i64 0, .bool false, .bool false, .bool false, .bool false, .bool false, .bool false, .bool false, .int .i64 0] 23))
    have K6 := hid (Blk.new w5 #[.int .i64 0, .bool false, .int .i64 0, .bool false, .bool false, .bool false, .bool false, .bool false, .bool false, .bool false, .int .i64 0])
    by_cases h4 : ms.length < 4
    · have h4' : (ms.length : Int) < 4 := by omega
      go_wp2_with fail
      refine (hread_short x c ms.length _ h4).mono ?_
      rintro e w7 ⟨rfl, d7⟩
      have B7 := hid (grown_on B6.out d7)
      have K7 := hid (K6.out.below d7)
      clear d7 K6 B6
      go_wp2_with fail
      refine (error_at 2 2 _ _ (hg.below (B7.out.alloc B7.out.size _)) rfl rfl).mono ?_
      rintro e w8 ⟨rfl, d8⟩
      have B8 := hid (grown_on (B7.out.alloc B7.out.size _) d8)
      have K8 := (K7.out.below ((Below.refl _ _).alloc (Nat.le_refl _) _)).below d8
      have Y8 := (Blk.new w7 #[.int .i64 0, .bool false, .int .i64 0, .bool false, .bool false, .bool false, .bool false, .bool false, .bool false, .bool false, .int .i64 0]).below d8
      clear d8 K7 B7
      have c0 := K8.cell (i := 0) rfl
      have c1 := K8.cell (i := 1) rfl
      have c2 := K8.cell (i := 2) rfl
      have c3 := K8.cell (i := 3) rfl
      have c4 := K8.cell (i := 4) rfl
      have c5 := K8.cell (i := 5) rfl
      have c6 := K8.cell (i := 6) rfl
      have c7 := K8.cell (i := 7) rfl
      have c8 := K8.cell (i := 8) rfl
      have c9 := K8.cell (i := 9) rfl
      have c10 := K8.cell (i := 10) rfl
      have y0 := Y8.cell (i := 0) rfl
      have y1 := Y8.cell (i := 1) rfl
      have y2 := Y8.cell (i := 2) rfl
      have y3 := Y8.cell (i := 3) rfl
      have y4 := Y8.cell (i := 4) rfl
      have y5 := Y8.cell (i := 5) rfl
      have y6 := Y8.cell (i := 6) rfl
      have y7 := Y8.cell (i := 7) rfl
      have y8 := Y8.cell (i := 8) rfl
      have y9 := Y8.cell (i := 9) rfl
      have y10 := Y8.cell (i := 10) rfl
      go_wp2_with fail
      go_ret
      exact ⟨rfl, B8.out⟩
    · have h4' : ¬ (ms.length : Int) < 4 := by omega
      obtain ⟨id', op', code', an', aa', tc', rd', ra', z', ad', cd', hV⟩ := hd_vars (ms.getD 0 0 * 256 + ms.getD 1 0) (ms.getD 2 0 * 256 + ms.getD 3 0)
      have F1 := hof_any x c ms _ (h.below B6.out) (by omega)
      rw [hV] at F1
      have FF := hid F1
      clear F1
      go_wp2_with fail
      refine FF.out.mono ?_
      rintro e w7 ⟨rfl, d7⟩
      have B7 := hid (grown_on B6.out d7)
      have K7 := hid (K6.out.below d7)
      clear d7 K6 B6 FF
      have c0 := K7.out.cell (i := 0) rfl
      have c1 := K7.out.cell (i := 1) rfl
      have c2 := K7.out.cell (i := 2) rfl
      have c3 := K7.out.cell (i := 3) rfl
      have c4 := K7.out.cell (i := 4) rfl
      have c5 := K7.out.cell (i := 5) rfl
      have c6 := K7.out.cell (i := 6) rfl
      have c7 := K7.out.cell (i := 7) rfl
      have c8 := K7.out.cell (i := 8) rfl
      have c9 := K7.out.cell (i := 9) rfl
      have c10 := K7.out.cell (i := 10) rfl
      have s0 := K7.out.frozen 0
      have s1 := K7.out.frozen 1
      have s2 := K7.out.frozen 2
      have s3 := K7.out.frozen 3
      have s4 := K7.out.frozen 4
      have s5 := K7.out.frozen 5
      have s6 := K7.out.frozen 6
      have s7 := K7.out.frozen 7
      have s8 := K7.out.frozen 8
      have s9 := K7.out.frozen 9
      have s10 := K7.out.frozen 10
      go_wp2_with fail
      have E : Blk (((((((((((w7.setCell ⟨w5.heap.size, 0, none⟩ (.int .i64 id')).setCell ⟨w5.heap.size, 1, none⟩ (.bool an')).setCell ⟨w5.heap.size, 2, none⟩ (.int .i64 op')).setCell ⟨w5.heap.size, 3, none⟩ (.bool aa')).setCell ⟨w5.heap.size, 4, none⟩ (.bool tc')).setCell ⟨w5.heap.size, 5, none⟩ (.bool rd')).setCell ⟨w5.heap.size, 6, none⟩ (.bool ra')).setCell ⟨w5.heap.size, 7, none⟩ (.bool z')).setCell ⟨w5.heap.size, 8, none⟩ (.bool ad')).setCell ⟨w5.heap.size, 9, none⟩ (.bool cd')).setCell ⟨w5.heap.size, 10, none⟩ (.int .i64 code')) w5.heap.size #[.int .i64 id', .bool an', .int .i64 op', .bool aa', .bool tc', .bool rd', .bool ra', .bool z', .bool ad', .bool cd', .int .i64 code'] := by
        have := (((((((((((K7.out.set 0 (.int .i64 id')).set 1 (.bool an')).set 2 (.int .i64 op')).set 3 (.bool aa')).set 4 (.bool tc')).set 5 (.bool rd')).set 6 (.bool ra')).set 7 (.bool z')).set 8 (.bool ad')).set 9 (.bool cd')).set 10 (.int .i64 code'))
        simpa using this
      have F : Below w.heap.size w (((((((((((w7.setCell ⟨w5.heap.size, 0, none⟩ (.int .i64 id')).setCell ⟨w5.heap.size, 1, none⟩ (.bool an')).setCell ⟨w5.heap.size, 2, none⟩ (.int .i64 op')).setCell ⟨w5.heap.size, 3, none⟩ (.bool aa')).setCell ⟨w5.heap.size, 4, none⟩ (.bool tc')).setCell ⟨w5.heap.size, 5, none⟩ (.bool rd')).setCell ⟨w5.heap.size, 6, none⟩ (.bool ra')).setCell ⟨w5.heap.size, 7, none⟩ (.bool z')).setCell ⟨w5.heap.size, 8, none⟩ (.bool ad')).setCell ⟨w5.heap.size, 9, none⟩ (.bool cd')).setCell ⟨w5.heap.size, 10, none⟩ (.int .i64 code')) := (((((((((((B7.out.setCell (p := ⟨w5.heap.size, 0, none⟩) hbw (.int .i64 id')).setCell (p := ⟨w5.heap.size, 1, none⟩) hbw (.bool an')).setCell (p := ⟨w5.heap.size, 2, none⟩) hbw (.int .i64 op')).setCell (p := ⟨w5.heap.size, 3, none⟩) hbw (.bool aa')).setCell (p := ⟨w5.heap.size, 4, none⟩) hbw (.bool tc')).setCell (p := ⟨w5.heap.size, 5, none⟩) hbw (.bool rd')).setCell (p := ⟨w5.heap.size, 6, none⟩) hbw (.bool ra')).setCell (p := ⟨w5.heap.size, 7, none⟩) hbw (.bool z')).setCell (p := ⟨w5.heap.size, 8, none⟩) hbw (.bool ad')).setCell (p := ⟨w5.heap.size, 9, none⟩) hbw (.bool cd')).setCell (p := ⟨w5.heap.size, 10, none⟩) hbw (.int .i64 code'))
      clear c0 c1 c2 c3 c4 c5 c6 c7 c8 c9 c10 s0 s1 s2 s3 s4 s5 s6 s7 s8 s9 s10 K7 B7
      generalize (((((((((((w7.setCell ⟨w5.heap.size, 0, none⟩ (.int .i64 id')).setCell ⟨w5.heap.size, 1, none⟩ (.bool an')).setCell ⟨w5.heap.size, 2, none⟩ (.int .i64 op')).setCell ⟨w5.heap.size, 3, none⟩ (.bool aa')).setCell ⟨w5.heap.size, 4, none⟩ (.bool tc')).setCell ⟨w5.heap.size, 5, none⟩ (.bool rd')).setCell ⟨w5.heap.size, 6, none⟩ (.bool ra')).setCell ⟨w5.heap.size, 7, none⟩ (.bool z')).setCell ⟨w5.heap.size, 8, none⟩ (.bool ad')).setCell ⟨w5.heap.size, 9, none⟩ (.bool cd')).setCell ⟨w5.heap.size, 10, none⟩ (.int .i64 code')) = w8 at *
      have E8 := hid E
      have F8 := hid F
      clear E F
      have F2 := hread_good x c ms w8 (h.below F8.out) (by omega)
      rw [hV] at F2
      refine F2.mono ?_
      rintro e w9 ⟨rfl, d9⟩
      have B9 := hid (grown_on F8.out d9)
      have K9 := hid (E8.out.below d9)
      clear d9 F2 E8 F8
      go_wp2_with fail
      refine (error_at 0 0 _ _ (hg.below (B9.out.alloc B9.out.size _)) rfl rfl).mono ?_
      rintro e w10 ⟨rfl, d10⟩
      have B10 := hid (grown_on (B9.out.alloc B9.out.size _) d10)
      have K10 := (K9.out.below ((Below.refl _ _).alloc (Nat.le_refl _) _)).below d10
      have Y10 := (Blk.new w9 #[.int .i64 id', .bool an', .int .i64 op', .bool aa', .bool tc', .bool rd', .bool ra', .bool z', .bool ad', .bool cd', .int .i64 code']).below d10
      clear d10 K9 B9
      have c0 := K10.cell (i := 0) rfl
      have c1 := K10.cell (i := 1) rfl
      have c2 := K10.cell (i := 2) rfl
      have c3 := K10.cell (i := 3) rfl
      have c4 := K10.cell (i := 4) rfl
      have c5 := K10.cell (i := 5) rfl
      have c6 := K10.cell (i := 6) rfl
      have c7 := K10.cell (i := 7) rfl
      have c8 := K10.cell (i := 8) rfl
      have c9 := K10.cell (i := 9) rfl
      have c10 := K10.cell (i := 10) rfl
      have y0 := Y10.cell (i := 0) rfl
      have y1 := Y10.cell (i := 1) rfl
      have y2 := Y10.cell (i := 2) rfl
      have y3 := Y10.cell (i := 3) rfl
      have y4 := Y10.cell (i := 4) rfl
      have y5 := Y10.cell (i := 5) rfl
      have y6 := Y10.cell (i := 6) rfl
      have y7 := Y10.cell (i := 7) rfl
      have y8 := Y10.cell (i := 8) rfl
      have y9 := Y10.cell (i := 9) rfl
      have y10 := Y10.cell (i := 10) rfl
      go_wp2_with fail
      go_ret
      exact ⟨rfl, B10.out⟩

end Go.Proofs.YtjpahieeaojieaaDoor
