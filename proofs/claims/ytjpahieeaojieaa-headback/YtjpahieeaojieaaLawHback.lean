/-
  The walk of the law HeadBack over its callees' contracts: for any header and any bytes it hands back true, and writes nothing that was there.
-/
import Derived.Test.YtjpahieeaojieaaHeadFacts
import Derived.Test.YtjpahieeaojieaaMsgBytes
namespace Go.Proofs.Ytjpahieeaojieaa
open Go.RowKit Go.Deep

theorem fact_head : headN 258 false 0 false false true false false false false 0 = [1, 2, 1, 0] := by decide +kernel

set_option maxHeartbeats 2000000 in
set_option maxRecDepth 100000 in
theorem hback_walk {x : Option Addr} {c l : Nat} (id op code : Int) (an aa tc rd ra z ad cd : Bool) (ms : List Int) (w : World) (h : Bys w x c ms) (hl : ms.length = l) :
    Calls Try.prog 3 #[.agg #[.int .i64 id, .bool an, .int .i64 op, .bool aa, .bool tc, .bool rd, .bool ra, .bool z, .bool ad, .bool cd, .int .i64 code], .slice x l c] w fun e w' => e = .returned (.bool true) ∧ Below w.heap.size w w' := by
  subst hl
  have hlen : ms.length ≤ 200000000000000 := h.2.1
  have hcap : ms.length ≤ c := h.1
  go_enter Try.func3, Try.ntmps3
  go_wp2_with fail
  have B0 : Below w.heap.size w _ := (Below.refl _ w).alloc (Nat.le_refl _) (.cells #[.int .i64 id, .bool an, .int .i64 op, .bool aa, .bool tc, .bool rd, .bool ra, .bool z, .bool ad, .bool cd, .int .i64 code] 23)
  have K0 := Blk.new w #[.int .i64 id, .bool an, .int .i64 op, .bool aa, .bool tc, .bool rd, .bool ra, .bool z, .bool ad, .bool cd, .int .i64 code]
  refine (hwrite_good 258 0 0 false false false true false false false false _ (by decide) (by decide) (by decide) (by decide) (by decide) (by decide)).mono ?_
  rintro e w1 ⟨gx1, gc1, rfl, _, s1, d1⟩
  rw [fact_head] at s1
  have B1 := grown_on B0 d1
  have K1 := K0.below d1
  clear B0 K0 d1
  go_wp2_with fail
  refine (bytes_at true _ _ _ (s1.below ((Below.refl _ _).alloc (Nat.le_refl _) _)) (bys_new w1 [1, 2, 1, 0] (by decide) (by decide)) rfl rfl rfl).mono ?_
  rintro e w2 ⟨rfl, d2⟩
  have B2 := hid (grown_on (B1.alloc B1.size _) d2)
  have K2 := (K1.below ((Below.refl _ _).alloc (Nat.le_refl _) _)).below d2
  clear B1 K1 s1 d2
  have c0 := K2.cell (i := 0) rfl
  have c1 := K2.cell (i := 1) rfl
  have c2 := K2.cell (i := 2) rfl
  have c3 := K2.cell (i := 3) rfl
  have c4 := K2.cell (i := 4) rfl
  have c5 := K2.cell (i := 5) rfl
  have c6 := K2.cell (i := 6) rfl
  have c7 := K2.cell (i := 7) rfl
  have c8 := K2.cell (i := 8) rfl
  have c9 := K2.cell (i := 9) rfl
  have c10 := K2.cell (i := 10) rfl
  go_wp2_with fail
  by_cases hok : (0 ≤ id ∧ id ≤ 65535) ∧ (0 ≤ op ∧ op ≤ 15) ∧ (0 ≤ code ∧ code ≤ 15)
  · obtain ⟨⟨hi0, hi1⟩, ⟨ho0, ho1⟩, hc0, hc1⟩ := hok
    refine (hwrite_good id op code an aa tc rd ra z ad cd _ hi0 hi1 ho0 ho1 hc0 hc1).mono ?_
    rintro e w3 ⟨gx3, gc3, rfl, _, s3, d3⟩
    have B3 := hid (grown_on B2.out d3)
    have K3 := K2.below d3
    clear c0 c1 c2 c3 c4 c5 c6 c7 c8 c9 c10 d3 B2 K2
    go_wp2_with fail
    refine (hread_back _ s3 ho0 ho1 hc0 hc1).mono ?_
    rintro e w4 ⟨rfl, d4⟩
    have B4 := hid (grown_on B3.out d4)
    have K4 := K3.below d4
    have hlt := K4.lt
    clear d4 B3 K3 s3
    have c0 := K4.cell (i := 0) rfl
    have c1 := K4.cell (i := 1) rfl
    have c2 := K4.cell (i := 2) rfl
    have c3 := K4.cell (i := 3) rfl
    have c4 := K4.cell (i := 4) rfl
    have c5 := K4.cell (i := 5) rfl
    have c6 := K4.cell (i := 6) rfl
    have c7 := K4.cell (i := 7) rfl
    have c8 := K4.cell (i := 8) rfl
    have c9 := K4.cell (i := 9) rfl
    have c10 := K4.cell (i := 10) rfl
    by_cases h4 : (ms.length : Int) < 4
    · go_wp2_with fail
      go_ret
      exact ⟨rfl, B4.out.alloc (Nat.le_of_lt hlt) _⟩
    · go_wp2_with fail
      have h5 : (4 : Int) ≤ (c : Int) := by omega
      have h6 : ¬ (ms.length : Int) < 4 := by omega
      refine (hread_four ms _ (h.below (B4.out.alloc (Nat.le_of_lt hlt) _)) (by omega)).mono ?_
      rintro e w5 ⟨id', op', code', an', aa', tc', rd', ra', z', ad', cd', rfl, hN, ⟨j0, j1⟩, ⟨j2, j3⟩, ⟨j4, j5⟩, d5⟩
      have B5 := hid (grown_on (B4.out.alloc (Nat.le_of_lt hlt) _) d5)
      clear d5
      go_wp2_with fail
      refine (hwrite_good id' op' code' an' aa' tc' rd' ra' z' ad' cd' _ j0 j1 j2 j3 j4 j5).mono ?_
      rintro e w6 ⟨gx6, gc6, rfl, _, s6, d6⟩
      have B6 := hid (grown_on (B5.out.alloc B5.out.size _) d6)
      rw [hN.out] at s6
      have S6 := hid s6
      clear d6 s6
      go_wp2_with fail
      refine (bytes_at true _ _ _ S6.out ((h.below B6.out).take 4 (by omega)) (by rw [List.length_take]; omega) (by rw [List.length_take]; omega) (by simp)).mono ?_
      rintro e w7 ⟨rfl, d7⟩
      have B7 := hid (grown_on B6.out d7)
      clear d7
      go_wp2_with fail
      go_ret
      exact ⟨rfl, B7.out⟩
  · refine (hwrite_bad id op code an aa tc rd ra z ad cd _ hok).mono ?_
    rintro e w3 ⟨rfl, d3⟩
    have B3 := hid (grown_on B2.out d3)
    clear d3 B2 K2 c0 c1 c2 c3 c4 c5 c6 c7 c8 c9 c10
    by_cases h4 : (ms.length : Int) < 4
    · go_wp2_with fail
      go_ret
      exact ⟨rfl, B3.out⟩
    · go_wp2_with fail
      have h5 : (4 : Int) ≤ (c : Int) := by omega
      have h6 : ¬ (ms.length : Int) < 4 := by omega
      refine (hread_four ms _ (h.below B3.out) (by omega)).mono ?_
      rintro e w5 ⟨id', op', code', an', aa', tc', rd', ra', z', ad', cd', rfl, hN, ⟨j0, j1⟩, ⟨j2, j3⟩, ⟨j4, j5⟩, d5⟩
      have B5 := hid (grown_on B3.out d5)
      clear d5
      go_wp2_with fail
      refine (hwrite_good id' op' code' an' aa' tc' rd' ra' z' ad' cd' _ j0 j1 j2 j3 j4 j5).mono ?_
      rintro e w6 ⟨gx6, gc6, rfl, _, s6, d6⟩
      have B6 := hid (grown_on (B5.out.alloc B5.out.size _) d6)
      rw [hN.out] at s6
      have S6 := hid s6
      clear d6 s6
      go_wp2_with fail
      refine (bytes_at true _ _ _ S6.out ((h.below B6.out).take 4 (by omega)) (by rw [List.length_take]; omega) (by rw [List.length_take]; omega) (by simp)).mono ?_
      rintro e w7 ⟨rfl, d7⟩
      have B7 := hid (grown_on B6.out d7)
      clear d7
      go_wp2_with fail
      go_ret
      exact ⟨rfl, B7.out⟩

end Go.Proofs.Ytjpahieeaojieaa
