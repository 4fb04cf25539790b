/-
  The walk of the law SubnetTells.
-/
import Derived.Test.YtgfplkhcihcagaaDoorRefS5
import Derived.Test.YtgfplkhcihcagaaDoorRefFault
import Derived.Test.YtgfplkhcihcagaaDoorCls
namespace Go.Proofs.YtgfplkhcihcagaaDoor
open Go.RowKit Go.Deep

set_option maxHeartbeats 1000000 in
set_option maxRecDepth 100000 in
theorem nets_true {x y : Option Addr} {c d l k : Nat} (fam src scp : Int) (A : List Int) (w : World) (ha : Bys w x c A) (hb : Bys w y d A) (hl : A.length = l) (hk : A.length = k) :
    Calls Tryd.prog 33 #[.agg #[.int .i64 fam, .int .i64 src, .int .i64 scp, .slice x l c], .agg #[.int .i64 fam, .int .i64 src, .int .i64 scp, .slice y k d]] w fun e w' => e = .returned (.bool true) ∧ Below w.heap.size w w' := by
  have B0 : Below w.heap.size w ((w.alloc (.cells #[.int .i64 fam, .int .i64 src, .int .i64 scp, .slice x l c] 61)).alloc (.cells #[.int .i64 fam, .int .i64 src, .int .i64 scp, .slice y k d] 61)) := ((Below.refl w.heap.size w).alloc (Nat.le_refl _) _).alloc (by simp) _
  have K1 := (Bl.new 61 w #[.int .i64 fam, .int .i64 src, .int .i64 scp, .slice x l c]).below ((Below.refl _ _).alloc (Nat.le_refl _) (.cells #[.int .i64 fam, .int .i64 src, .int .i64 scp, .slice y k d] 61))
  have K2 : Bl 61 ((w.alloc (.cells #[.int .i64 fam, .int .i64 src, .int .i64 scp, .slice x l c] 61)).alloc (.cells #[.int .i64 fam, .int .i64 src, .int .i64 scp, .slice y k d] 61)) (w.heap.size + 1) #[.int .i64 fam, .int .i64 src, .int .i64 scp, .slice y k d] := by
    have := Bl.new 61 (w.alloc (.cells #[.int .i64 fam, .int .i64 src, .int .i64 scp, .slice x l c] 61)) #[.int .i64 fam, .int .i64 src, .int .i64 scp, .slice y k d]
    rwa [World.size_alloc] at this
  have HK1 := hid K1
  have HK2 := hid K2
  have HB0 := hid B0
  clear K1 K2 B0
  go_enter Tryd.func33, Tryd.ntmps33
  go_wp2_with fail
  refine (bytes_at true A A _ (ha.below HB0.out) (hb.below HB0.out) hl hk (by simp)).mono ?_
  rintro e w1 ⟨rfl, d1⟩
  have B1 := hid (grown_on HB0.out d1)
  have J1 := HK1.out.below d1
  have J2 := HK2.out.below d1
  have s0 := J1.cell (i := 0) rfl
  have s1 := J1.cell (i := 1) rfl
  have s2 := J1.cell (i := 2) rfl
  have t0 := J2.cell (i := 0) rfl
  have t1 := J2.cell (i := 1) rfl
  have t2 := J2.cell (i := 2) rfl
  clear J1 J2 d1 HK1 HK2 HB0
  go_wp2_with fail
  go_ret
  exact ⟨rfl, B1.out⟩

theorem sof_any {x : Option Addr} {c l : Nat} (b : List Int) (w : World) (h : Bys w x c b) (hl : b.length = l) : Calls Tryd.prog 31 #[.slice x l c] w (SofP b w) := by
  by_cases h4 : b.length < 4
  · exact sof_short b w hl h4
  · have h4' : 4 ≤ b.length := by omega
    have r2 : 0 ≤ (snOf b).src ∧ (snOf b).src ≤ 255 := getD_byte h.2.2.1 2
    have r3 : 0 ≤ (snOf b).scp ∧ (snOf b).scp ≤ 255 := getD_byte h.2.2.1 3
    rcases h.2.2.2 with e | ⟨bk, off, rfl, _, _⟩
    · rw [e] at h4'; simp at h4'
    · by_cases c1 : wideN (snOf b).fam = 0
      · exact sof_none b w h hl h4' c1
      · by_cases c2 : fitN (snOf b) (wideN (snOf b).fam)
        · exact sof_last b w h hl h4' c1 c2
        · by_cases c3 : 8 * ((wideN (snOf b).fam : Nat) : Int) < (snOf b).src
          · exact sof_unfit_a b w h hl h4' c1 c2 c3
          · by_cases c4 : 8 * ((wideN (snOf b).fam : Nat) : Int) < (snOf b).scp
            · exact sof_unfit_b b w h hl h4' c1 c2 c3 c4
            · exact absurd ⟨⟨by omega, by omega⟩, ⟨by omega, by omega⟩⟩ c2

theorem sof_good {x : Option Addr} {c l : Nat} {b : List Int} {w : World} (h : Bys w x c b) (hl : b.length = l) (h0 : decE b = 0) :
    Calls Tryd.prog 31 #[.slice x l c] w fun e w' => ∃ g d, e = .returned (.tuple #[.agg #[.int .i64 (snOf b).fam, .int .i64 (snOf b).src, .int .i64 (snOf b).scp, .slice (some ⟨g, 0, none⟩) (snOf b).A.length d], .int .i64 0]) ∧ Bys w' (some ⟨g, 0, none⟩) d (snOf b).A ∧ Below w.heap.size w w' :=
  (sof_any b w h hl).mono fun e w' hp => by unfold SofP at hp; rw [if_pos h0] at hp; obtain ⟨g, d, h1, h2, _, h3⟩ := hp; exact ⟨g, d, h1, h2, h3⟩

theorem sof_bad {x : Option Addr} {c l : Nat} {b : List Int} {w : World} (h : Bys w x c b) (hl : b.length = l) (h0 : ¬ decE b = 0) :
    Calls Tryd.prog 31 #[.slice x l c] w fun e w' => e = .returned (.tuple #[.agg #[.int .i64 0, .int .i64 0, .int .i64 0, .slice none 0 0], .int .i64 (decE b)]) ∧ Below w.heap.size w w' :=
  (sof_any b w h hl).mono fun e w' hp => by unfold SofP at hp; rwa [if_neg h0] at hp

theorem dec_good {x : Option Addr} {c l : Nat} {b : List Int} {w : World} (h : Bys w x c b) (hl : b.length = l) (h0 : decE b = 0) :
    Calls Tryd.prog 32 #[.slice x l c] w fun e w' => ∃ g d, e = .returned (.tuple #[.agg #[.int .i64 (snOf b).fam, .int .i64 (snOf b).src, .int .i64 (snOf b).scp, .slice (some ⟨g, 0, none⟩) (snOf b).A.length d], .nilIface]) ∧ Bys w' (some ⟨g, 0, none⟩) d (snOf b).A ∧ Below w.heap.size w w' :=
  (dec_any b w h hl).mono fun e w' hp => by unfold DecP at hp; rw [if_pos h0] at hp; obtain ⟨g, d, h1, h2, _, h3⟩ := hp; exact ⟨g, d, h1, h2, h3⟩

theorem dec_bad {x : Option Addr} {c l : Nat} {b : List Int} {w : World} (h : Bys w x c b) (hl : b.length = l) (h0 : ¬ decE b = 0) :
    Calls Tryd.prog 32 #[.slice x l c] w fun e w' => e = .returned (.tuple #[.agg #[.int .i64 0, .int .i64 0, .int .i64 0, .slice none 0 0], errV (decE b)]) ∧ Below w.heap.size w w' :=
  (dec_any b w h hl).mono fun e w' hp => by unfold DecP at hp; rwa [if_neg h0] at hp

theorem rmask_bys {x : Option Addr} {c l : Nat} (n : Nat) (xs : List Int) (w : World) (h : Bys w x c xs) (hl : xs.length = l) (hn : n ≤ 8 * xs.length) (hl2 : xs.length ≤ 140737488351232) :
    Calls Tryd.prog 24 #[.slice x l c, .int .i64 (n : Int)] w fun e w' => ∃ y d, e = .returned (.slice y l d) ∧ Bys w' y d (maskN n xs) ∧ Below w.heap.size w w' :=
  (rmasked_any n xs w h hl hn hl2).mono fun e w' ⟨v, h1, h2, h3⟩ => by
    obtain ⟨y, d, hv, hb⟩ := rowb_bys h2 (by rw [maskN_len]; exact h.2.1) (maskN_bytes n h.2.2.1)
    rw [maskN_len, hl] at hv
    exact ⟨y, d, by rw [h1, hv], hb, h3⟩

set_option maxHeartbeats 4000000 in
set_option maxRecDepth 100000 in
theorem st_ggg {xa xs xb : Option Addr} {ca la cs ls cb lb : Nat} (a : List Int) (n : Int) (fam src scp : Int) (A b : List Int) (w : World) (ha : Bys w xa ca a) (hs : Bys w xs cs A) (hb : Bys w xb cb b) (hna : xa = none → ca = 0) (hla : a.length = la) (hls : A.length = ls) (hlb : b.length = lb) (hal : a.length ≤ 140737488351232) (hg : Glob w) (hn : 0 ≤ n ∧ n ≤ 8 * (la : Int)) (h0 : Hid (snE ⟨fam, src, scp, A⟩ = 0)) (h1 : Hid (decE b = 0)) :
    Calls Tryd.prog 6 #[.slice xa la ca, .int .i64 n, .agg #[.int .i64 fam, .int .i64 src, .int .i64 scp, .slice xs ls cs], .slice xb lb cb] w fun e w' => e = .returned (.bool true) ∧ Below w.heap.size w w' := by
  have B0 := hid ((Below.refl w.heap.size w).alloc (Nat.le_refl _) (.cells #[.int .i64 fam, .int .i64 src, .int .i64 scp, .slice xs ls cs] 61))
  have K0 := hid (Bl.new 61 w #[.int .i64 fam, .int .i64 src, .int .i64 scp, .slice xs ls cs])
  have U0 := hid ((Below.refl w.heap.size w).alloc (Nat.le_refl _) (.cells #[.int .i64 fam, .int .i64 src, .int .i64 scp, .slice xs ls cs] 61))
  obtain ⟨m, rfl⟩ : ∃ m : Nat, n = (m : Int) := ⟨n.toNat, by omega⟩
  have hn8 : ¬ 8 * (la : Int) < (m : Int) := by omega
  have hm8 : Hid (m ≤ 8 * a.length) := hid (by omega)
  have hm9 : Hid ((m : Int) ≤ 8 * (a.length : Int)) := hid (by omega)
  clear hn
  go_enter Tryd.func6, Tryd.ntmps6
  go_wp2_with fail
  refine (rmask_bys m a _ (ha.below B0.out) hla hm8.out hal).mono ?_
  rintro e w1 ⟨y1, d1, rfl, k1, e1⟩
  have B1 := hid (grown_on B0.out e1)
  have K1 := hid (K0.out.below e1)
  have Y1 := hid k1
  clear e1 k1 B0 K0 U0
  go_wp2_with fail
  refine (mask_good (m : Int) a w1 (ha.below B1.out) hna (by omega) hm9.out hla).mono ?_
  rintro e w2 ⟨g2, rfl, k2, e2⟩
  rw [Int.toNat_natCast] at k2
  have B2 := hid (grown_on B1.out e2)
  have K2 := hid (K1.out.below e2)
  have Y2 := hid (Y1.out.below e2)
  have Z2 := hid k2
  clear e2 k2 B1 K1 Y1
  go_wp2_with fail
  refine (error_at 0 0 _ w2 (hg.below B2.out) rfl rfl).mono ?_
  rintro e w3 ⟨rfl, e3⟩
  have B3 := hid (grown_on B2.out e3)
  have K3 := hid (K2.out.below e3)
  have Y3 := hid (Y2.out.below e3)
  have Z3 := hid (Z2.out.below e3)
  clear e3 B2 K2 Y2 Z2
  go_wp2_with fail
  refine (bytes_at true _ _ w3 Z3.out Y3.out (by rw [maskN_len]; exact hla) (by rw [maskN_len]; exact hla) (by simp)).mono ?_
  rintro e w4 ⟨rfl, e4⟩
  have B4 := hid (grown_on B3.out e4)
  have K4 := K3.out.below e4
  have HK4 := hid K4
  have s0 := K4.cell (i := 0) rfl
  have s1 := K4.cell (i := 1) rfl
  have s2 := K4.cell (i := 2) rfl
  have s3 := K4.cell (i := 3) rfl
  clear e4 K4 B3 K3 Y3 Z3
  go_wp2_with fail
  refine (sfault_at (x := xs) (c := cs) (l := ls) _ ⟨fam, src, scp, A⟩ w4 hls hs.2.1 rfl).mono ?_
  rintro e w5 ⟨rfl, e5⟩
  have B5 := hid (grown_on B4.out e5)
  have K5 := HK4.out.below e5
  clear s0 s1 s2 s3
  have s0 := K5.cell (i := 0) rfl
  have s1 := K5.cell (i := 1) rfl
  have s2 := K5.cell (i := 2) rfl
  have s3 := K5.cell (i := 3) rfl
  have HK5 := hid K5
  clear e5 K5 B4 HK4
  rw [h0.out]
  go_wp2_with fail
  refine (sbytes_any (x := xs) (c := cs) (l := ls) ⟨fam, src, scp, A⟩ w5 (hs.below B5.out) hls h0.out).mono ?_
  rintro e w6 ⟨b6, o6, c6, rfl, k6, _, e6⟩
  have B6 := hid (grown_on B5.out e6)
  have K6 := HK5.out.below e6
  have Y6 := hid k6
  clear s0 s1 s2 s3
  have s0 := K6.cell (i := 0) rfl
  have s1 := K6.cell (i := 1) rfl
  have s2 := K6.cell (i := 2) rfl
  have s3 := K6.cell (i := 3) rfl
  have HK6 := hid K6
  clear e6 K6 B5 HK5 k6
  go_wp2_with fail
  refine (encode_good (x := xs) (c := cs) (l := ls) ⟨fam, src, scp, A⟩ w6 (hs.below B6.out) hls h0.out).mono ?_
  rintro e w7 ⟨b7, o7, c7, rfl, k7, _, e7⟩
  have B7 := hid (grown_on B6.out e7)
  have K7 := hid (HK6.out.below e7)
  have Y7 := hid (Y6.out.below e7)
  have Z7 := hid k7
  clear e7 B6 HK6 k7 Y6 s0 s1 s2 s3
  go_wp2_with fail
  refine (error_at 0 0 _ w7 (hg.below B7.out) rfl rfl).mono ?_
  rintro e w8 ⟨rfl, e8⟩
  have B8 := hid (grown_on B7.out e8)
  have K8 := hid (K7.out.below e8)
  have Y8 := hid (Y7.out.below e8)
  have Z8 := hid (Z7.out.below e8)
  clear e8 B7 K7 Y7 Z7
  go_wp2_with fail
  refine (bytes_at true _ _ w8 Z8.out Y8.out rfl rfl (by simp)).mono ?_
  rintro e w9 ⟨rfl, e9⟩
  have B9 := hid (grown_on B8.out e9)
  have K9 := hid (K8.out.below e9)
  clear e9 B8 K8 Y8 Z8
  go_wp2_with fail
  have xc0 : ∀ s : Cl w9, s.val.cell? ⟨w.heap.size, 0, none⟩ = some (.int .i64 fam) := fun s => (K9.out.below s.hb).cell (i := 0) rfl
  have xc1 : ∀ s : Cl w9, s.val.cell? ⟨w.heap.size, 1, none⟩ = some (.int .i64 src) := fun s => (K9.out.below s.hb).cell (i := 1) rfl
  have xc2 : ∀ s : Cl w9, s.val.cell? ⟨w.heap.size, 2, none⟩ = some (.int .i64 scp) := fun s => (K9.out.below s.hb).cell (i := 2) rfl
  have xc3 : ∀ s : Cl w9, s.val.cell? ⟨w.heap.size, 3, none⟩ = some (.slice xs ls cs) := fun s => (K9.out.below s.hb).cell (i := 3) rfl
  obtain ⟨r, hr⟩ : ∃ r, decide (inN a ⟨fam, src, scp, A⟩) = r := ⟨_, rfl⟩
  have Q1 : Hid (∀ s : Cl w9, Calls Tryd.prog 29 #[.slice xa la ca, .agg #[.int .i64 fam, .int .i64 src, .int .i64 scp, .slice xs ls cs]] s.val fun e w'' => e = .returned (.bool r) ∧ ∃ s' : Cl w9, w'' = s'.val) :=
    hid fun s => Calls.cl (in_at (xs := xs) (cs := cs) (ls := ls) r a ⟨fam, src, scp, A⟩ s.val ((ha.below B9.out).below s.hb) ((hs.below B9.out).below s.hb) hla hls hr)
  have Q2 : Hid (∀ s : Cl w9, Calls Tryd.prog 30 #[.slice xa la ca, .agg #[.int .i64 fam, .int .i64 src, .int .i64 scp, .slice xs ls cs]] s.val fun e w'' => e = .returned (.bool r) ∧ ∃ s' : Cl w9, w'' = s'.val) :=
    hid fun s => Calls.cl (inside_at (xs := xs) (cs := cs) (ls := ls) r a ⟨fam, src, scp, A⟩ s.val ((ha.below B9.out).below s.hb) ((hs.below B9.out).below s.hb) hla hls hr)
  have BE : Hid (∀ u, (∃ s : Cl w9, u = s.val) → Below w.heap.size w u) := hid fun u ⟨s, hs'⟩ => by rw [hs']; exact grown_on B9.out s.hb
  have hrr : (r != r) = false := by cases r <;> rfl
  clear hr
  refine wp_region_class (w0 := w9) (by kernel_rfl) (by kernel_rfl) (Below.refl _ _) ?_
  repeat (go_big_quiet_step (first | (go_at_call 29; exact Q1.out _) | (go_at_call 30; exact Q2.out _)))
  refine wpQuiet_nil ?_
  intro w10 hw10
  have B10 := hid (BE.out _ hw10)
  clear hw10 xc0 xc1 xc2 xc3 Q1 Q2 BE B9 K9
  go_wp2_with fail
  have HDG := hid (fun (u : World) (q : Below w.heap.size w u) => dec_good (hb.below q) hlb h1.out)
  refine (sof_good (hb.below B10.out) hlb h1.out).mono ?_
  rintro e w11 ⟨g11, d11, rfl, k11, e11⟩
  have B11 := hid (grown_on B10.out e11)
  have Y11 := hid k11
  clear e11 k11 B10
  generalize snOf b = S at *
  obtain ⟨f1, u1, p1, A1⟩ := S
  simp only at HDG Y11 ⊢
  have X11 := hid (Bl.new 61 w11 #[.int .i64 f1, .int .i64 u1, .int .i64 p1, .slice (some ⟨g11, 0, none⟩) A1.length d11])
  have B12 := hid (B11.out.alloc B11.out.size (.cells #[.int .i64 f1, .int .i64 u1, .int .i64 p1, .slice (some ⟨g11, 0, none⟩) A1.length d11] 61))
  have Y12 := hid (Y11.out.below ((Below.refl _ _).alloc (Nat.le_refl _) (.cells #[.int .i64 f1, .int .i64 u1, .int .i64 p1, .slice (some ⟨g11, 0, none⟩) A1.length d11] 61)))
  go_wp2_with fail
  refine (HDG.out _ B12.out).mono ?_
  rintro e w13 ⟨g13, d13, rfl, k13, e13⟩
  have B13 := hid (grown_on B12.out e13)
  have X13 := hid (X11.out.below e13)
  have Y13 := hid (Y12.out.below e13)
  have Z13 := hid k13
  clear e13 B12 X11 Y11 Y12 k13 HDG
  have A14 := hid ((Below.refl w13.heap.size w13).alloc (Nat.le_refl _) (.cells #[.int .i64 f1, .int .i64 u1, .int .i64 p1, .slice (some ⟨g13, 0, none⟩) A1.length d13] 61))
  have X14 := hid (X13.out.below A14.out)
  have V14 := hid (Bl.new 61 w13 #[.int .i64 f1, .int .i64 u1, .int .i64 p1, .slice (some ⟨g13, 0, none⟩) A1.length d13])
  have B14 := hid (B13.out.alloc B13.out.size (.cells #[.int .i64 f1, .int .i64 u1, .int .i64 p1, .slice (some ⟨g13, 0, none⟩) A1.length d13] 61))
  go_wp2_with fail
  refine (error_at 0 0 _ _ (hg.below B14.out) rfl rfl).mono ?_
  rintro e w15 ⟨rfl, e15⟩
  have B15 := hid (grown_on B14.out e15)
  have X15 := X14.out.below e15
  have V15 := V14.out.below e15
  have Y15 := hid ((Y13.out.below A14.out).below e15)
  have Z15 := hid ((Z13.out.below A14.out).below e15)
  have x0 := X15.cell (i := 0) rfl
  have x1 := X15.cell (i := 1) rfl
  have x2 := X15.cell (i := 2) rfl
  have x3 := X15.cell (i := 3) rfl
  have v0 := V15.cell (i := 0) rfl
  have v1 := V15.cell (i := 1) rfl
  have v2 := V15.cell (i := 2) rfl
  have v3 := V15.cell (i := 3) rfl
  clear e15 X15 V15 X14 V14 X13 Y13 Z13 A14
  go_wp2_with fail
  refine (nets_true f1 u1 p1 A1 w15 Y15.out Z15.out rfl rfl).mono ?_
  rintro e w16 ⟨rfl, e16⟩
  have B16 := hid (grown_on B15.out e16)
  clear e16
  go_wp2_with fail
  go_ret
  exact ⟨rfl, B16.out⟩

set_option maxHeartbeats 4000000 in
set_option maxRecDepth 100000 in
theorem st_ggb {xa xs xb : Option Addr} {ca la cs ls cb lb : Nat} (a : List Int) (n : Int) (fam src scp : Int) (A b : List Int) (w : World) (ha : Bys w xa ca a) (hs : Bys w xs cs A) (hb : Bys w xb cb b) (hna : xa = none → ca = 0) (hla : a.length = la) (hls : A.length = ls) (hlb : b.length = lb) (hal : a.length ≤ 140737488351232) (hg : Glob w) (hn : 0 ≤ n ∧ n ≤ 8 * (la : Int)) (h0 : Hid (snE ⟨fam, src, scp, A⟩ = 0)) (h1 : Hid (¬ decE b = 0)) :
    Calls Tryd.prog 6 #[.slice xa la ca, .int .i64 n, .agg #[.int .i64 fam, .int .i64 src, .int .i64 scp, .slice xs ls cs], .slice xb lb cb] w fun e w' => e = .returned (.bool true) ∧ Below w.heap.size w w' := by
  have B0 := hid ((Below.refl w.heap.size w).alloc (Nat.le_refl _) (.cells #[.int .i64 fam, .int .i64 src, .int .i64 scp, .slice xs ls cs] 61))
  have K0 := hid (Bl.new 61 w #[.int .i64 fam, .int .i64 src, .int .i64 scp, .slice xs ls cs])
  have U0 := hid ((Below.refl w.heap.size w).alloc (Nat.le_refl _) (.cells #[.int .i64 fam, .int .i64 src, .int .i64 scp, .slice xs ls cs] 61))
  obtain ⟨m, rfl⟩ : ∃ m : Nat, n = (m : Int) := ⟨n.toNat, by omega⟩
  have hn8 : ¬ 8 * (la : Int) < (m : Int) := by omega
  have hm8 : Hid (m ≤ 8 * a.length) := hid (by omega)
  have hm9 : Hid ((m : Int) ≤ 8 * (a.length : Int)) := hid (by omega)
  clear hn
  go_enter Tryd.func6, Tryd.ntmps6
  go_wp2_with fail
  refine (rmask_bys m a _ (ha.below B0.out) hla hm8.out hal).mono ?_
  rintro e w1 ⟨y1, d1, rfl, k1, e1⟩
  have B1 := hid (grown_on B0.out e1)
  have K1 := hid (K0.out.below e1)
  have Y1 := hid k1
  clear e1 k1 B0 K0 U0
  go_wp2_with fail
  refine (mask_good (m : Int) a w1 (ha.below B1.out) hna (by omega) hm9.out hla).mono ?_
  rintro e w2 ⟨g2, rfl, k2, e2⟩
  rw [Int.toNat_natCast] at k2
  have B2 := hid (grown_on B1.out e2)
  have K2 := hid (K1.out.below e2)
  have Y2 := hid (Y1.out.below e2)
  have Z2 := hid k2
  clear e2 k2 B1 K1 Y1
  go_wp2_with fail
  refine (error_at 0 0 _ w2 (hg.below B2.out) rfl rfl).mono ?_
  rintro e w3 ⟨rfl, e3⟩
  have B3 := hid (grown_on B2.out e3)
  have K3 := hid (K2.out.below e3)
  have Y3 := hid (Y2.out.below e3)
  have Z3 := hid (Z2.out.below e3)
  clear e3 B2 K2 Y2 Z2
  go_wp2_with fail
  refine (bytes_at true _ _ w3 Z3.out Y3.out (by rw [maskN_len]; exact hla) (by rw [maskN_len]; exact hla) (by simp)).mono ?_
  rintro e w4 ⟨rfl, e4⟩
  have B4 := hid (grown_on B3.out e4)
  have K4 := K3.out.below e4
  have HK4 := hid K4
  have s0 := K4.cell (i := 0) rfl
  have s1 := K4.cell (i := 1) rfl
  have s2 := K4.cell (i := 2) rfl
  have s3 := K4.cell (i := 3) rfl
  clear e4 K4 B3 K3 Y3 Z3
  go_wp2_with fail
  refine (sfault_at (x := xs) (c := cs) (l := ls) _ ⟨fam, src, scp, A⟩ w4 hls hs.2.1 rfl).mono ?_
  rintro e w5 ⟨rfl, e5⟩
  have B5 := hid (grown_on B4.out e5)
  have K5 := HK4.out.below e5
  clear s0 s1 s2 s3
  have s0 := K5.cell (i := 0) rfl
  have s1 := K5.cell (i := 1) rfl
  have s2 := K5.cell (i := 2) rfl
  have s3 := K5.cell (i := 3) rfl
  have HK5 := hid K5
  clear e5 K5 B4 HK4
  rw [h0.out]
  go_wp2_with fail
  refine (sbytes_any (x := xs) (c := cs) (l := ls) ⟨fam, src, scp, A⟩ w5 (hs.below B5.out) hls h0.out).mono ?_
  rintro e w6 ⟨b6, o6, c6, rfl, k6, _, e6⟩
  have B6 := hid (grown_on B5.out e6)
  have K6 := HK5.out.below e6
  have Y6 := hid k6
  clear s0 s1 s2 s3
  have s0 := K6.cell (i := 0) rfl
  have s1 := K6.cell (i := 1) rfl
  have s2 := K6.cell (i := 2) rfl
  have s3 := K6.cell (i := 3) rfl
  have HK6 := hid K6
  clear e6 K6 B5 HK5 k6
  go_wp2_with fail
  refine (encode_good (x := xs) (c := cs) (l := ls) ⟨fam, src, scp, A⟩ w6 (hs.below B6.out) hls h0.out).mono ?_
  rintro e w7 ⟨b7, o7, c7, rfl, k7, _, e7⟩
  have B7 := hid (grown_on B6.out e7)
  have K7 := hid (HK6.out.below e7)
  have Y7 := hid (Y6.out.below e7)
  have Z7 := hid k7
  clear e7 B6 HK6 k7 Y6 s0 s1 s2 s3
  go_wp2_with fail
  refine (error_at 0 0 _ w7 (hg.below B7.out) rfl rfl).mono ?_
  rintro e w8 ⟨rfl, e8⟩
  have B8 := hid (grown_on B7.out e8)
  have K8 := hid (K7.out.below e8)
  have Y8 := hid (Y7.out.below e8)
  have Z8 := hid (Z7.out.below e8)
  clear e8 B7 K7 Y7 Z7
  go_wp2_with fail
  refine (bytes_at true _ _ w8 Z8.out Y8.out rfl rfl (by simp)).mono ?_
  rintro e w9 ⟨rfl, e9⟩
  have B9 := hid (grown_on B8.out e9)
  have K9 := hid (K8.out.below e9)
  clear e9 B8 K8 Y8 Z8
  go_wp2_with fail
  have xc0 : ∀ s : Cl w9, s.val.cell? ⟨w.heap.size, 0, none⟩ = some (.int .i64 fam) := fun s => (K9.out.below s.hb).cell (i := 0) rfl
  have xc1 : ∀ s : Cl w9, s.val.cell? ⟨w.heap.size, 1, none⟩ = some (.int .i64 src) := fun s => (K9.out.below s.hb).cell (i := 1) rfl
  have xc2 : ∀ s : Cl w9, s.val.cell? ⟨w.heap.size, 2, none⟩ = some (.int .i64 scp) := fun s => (K9.out.below s.hb).cell (i := 2) rfl
  have xc3 : ∀ s : Cl w9, s.val.cell? ⟨w.heap.size, 3, none⟩ = some (.slice xs ls cs) := fun s => (K9.out.below s.hb).cell (i := 3) rfl
  obtain ⟨r, hr⟩ : ∃ r, decide (inN a ⟨fam, src, scp, A⟩) = r := ⟨_, rfl⟩
  have Q1 : Hid (∀ s : Cl w9, Calls Tryd.prog 29 #[.slice xa la ca, .agg #[.int .i64 fam, .int .i64 src, .int .i64 scp, .slice xs ls cs]] s.val fun e w'' => e = .returned (.bool r) ∧ ∃ s' : Cl w9, w'' = s'.val) :=
    hid fun s => Calls.cl (in_at (xs := xs) (cs := cs) (ls := ls) r a ⟨fam, src, scp, A⟩ s.val ((ha.below B9.out).below s.hb) ((hs.below B9.out).below s.hb) hla hls hr)
  have Q2 : Hid (∀ s : Cl w9, Calls Tryd.prog 30 #[.slice xa la ca, .agg #[.int .i64 fam, .int .i64 src, .int .i64 scp, .slice xs ls cs]] s.val fun e w'' => e = .returned (.bool r) ∧ ∃ s' : Cl w9, w'' = s'.val) :=
    hid fun s => Calls.cl (inside_at (xs := xs) (cs := cs) (ls := ls) r a ⟨fam, src, scp, A⟩ s.val ((ha.below B9.out).below s.hb) ((hs.below B9.out).below s.hb) hla hls hr)
  have BE : Hid (∀ u, (∃ s : Cl w9, u = s.val) → Below w.heap.size w u) := hid fun u ⟨s, hs'⟩ => by rw [hs']; exact grown_on B9.out s.hb
  have hrr : (r != r) = false := by cases r <;> rfl
  clear hr
  refine wp_region_class (w0 := w9) (by kernel_rfl) (by kernel_rfl) (Below.refl _ _) ?_
  repeat (go_big_quiet_step (first | (go_at_call 29; exact Q1.out _) | (go_at_call 30; exact Q2.out _)))
  refine wpQuiet_nil ?_
  intro w10 hw10
  have B10 := hid (BE.out _ hw10)
  clear hw10 xc0 xc1 xc2 xc3 Q1 Q2 BE B9 K9
  go_wp2_with fail
  refine (sof_bad (hb.below B10.out) hlb h1.out).mono ?_
  rintro e w11 ⟨rfl, e11⟩
  have B11 := hid (grown_on B10.out e11)
  clear e11 B10
  have X11 := hid (Bl.new 61 w11 #[.int .i64 0, .int .i64 0, .int .i64 0, .slice none 0 0])
  have B12 := hid (B11.out.alloc B11.out.size (.cells #[.int .i64 0, .int .i64 0, .int .i64 0, .slice none 0 0] 61))
  go_wp2_with fail
  refine (dec_bad (hb.below B12.out) hlb h1.out).mono ?_
  rintro e w13 ⟨rfl, e13⟩
  have B13 := hid (grown_on B12.out e13)
  have X13 := hid (X11.out.below e13)
  clear e13 B12 X11
  obtain ⟨k3, hk3⟩ : ∃ k3, decE b = k3 := ⟨_, rfl⟩
  rw [hk3]
  clear hk3
  have X14 := hid (X13.out.below ((Below.refl _ _).alloc (Nat.le_refl _) (.cells #[.int .i64 0, .int .i64 0, .int .i64 0, .slice none 0 0] 61)))
  have V14 := hid (Bl.new 61 w13 #[.int .i64 0, .int .i64 0, .int .i64 0, .slice none 0 0])
  have B14 := hid (B13.out.alloc B13.out.size (.cells #[.int .i64 0, .int .i64 0, .int .i64 0, .slice none 0 0] 61))
  go_wp2_with fail
  refine (error_at k3 k3 _ _ (hg.below B14.out) rfl rfl).mono ?_
  rintro e w15 ⟨rfl, e15⟩
  have B15 := hid (grown_on B14.out e15)
  have X15 := X14.out.below e15
  have V15 := V14.out.below e15
  have x0 := X15.cell (i := 0) rfl
  have x1 := X15.cell (i := 1) rfl
  have x2 := X15.cell (i := 2) rfl
  have x3 := X15.cell (i := 3) rfl
  have v0 := V15.cell (i := 0) rfl
  have v1 := V15.cell (i := 1) rfl
  have v2 := V15.cell (i := 2) rfl
  have v3 := V15.cell (i := 3) rfl
  clear e15 X15 V15 X14 V14 X13
  go_wp2_with fail
  refine (nets_true 0 0 0 [] w15 (Bys.nil _ none 0) (Bys.nil _ none 0) rfl rfl).mono ?_
  rintro e w16 ⟨rfl, e16⟩
  have B16 := hid (grown_on B15.out e16)
  clear e16
  go_wp2_with fail
  go_ret
  exact ⟨rfl, B16.out⟩

set_option maxHeartbeats 4000000 in
set_option maxRecDepth 100000 in
theorem st_gbg {xa xs xb : Option Addr} {ca la cs ls cb lb : Nat} (a : List Int) (n : Int) (fam src scp : Int) (A b : List Int) (w : World) (ha : Bys w xa ca a) (hs : Bys w xs cs A) (hb : Bys w xb cb b) (hna : xa = none → ca = 0) (hla : a.length = la) (hls : A.length = ls) (hlb : b.length = lb) (hal : a.length ≤ 140737488351232) (hg : Glob w) (hn : 0 ≤ n ∧ n ≤ 8 * (la : Int)) (h0 : Hid (¬ snE ⟨fam, src, scp, A⟩ = 0)) (h1 : Hid (decE b = 0)) :
    Calls Tryd.prog 6 #[.slice xa la ca, .int .i64 n, .agg #[.int .i64 fam, .int .i64 src, .int .i64 scp, .slice xs ls cs], .slice xb lb cb] w fun e w' => e = .returned (.bool true) ∧ Below w.heap.size w w' := by
  have B0 := hid ((Below.refl w.heap.size w).alloc (Nat.le_refl _) (.cells #[.int .i64 fam, .int .i64 src, .int .i64 scp, .slice xs ls cs] 61))
  have K0 := hid (Bl.new 61 w #[.int .i64 fam, .int .i64 src, .int .i64 scp, .slice xs ls cs])
  have U0 := hid ((Below.refl w.heap.size w).alloc (Nat.le_refl _) (.cells #[.int .i64 fam, .int .i64 src, .int .i64 scp, .slice xs ls cs] 61))
  obtain ⟨m, rfl⟩ : ∃ m : Nat, n = (m : Int) := ⟨n.toNat, by omega⟩
  have hn8 : ¬ 8 * (la : Int) < (m : Int) := by omega
  have hm8 : Hid (m ≤ 8 * a.length) := hid (by omega)
  have hm9 : Hid ((m : Int) ≤ 8 * (a.length : Int)) := hid (by omega)
  clear hn
  go_enter Tryd.func6, Tryd.ntmps6
  go_wp2_with fail
  refine (rmask_bys m a _ (ha.below B0.out) hla hm8.out hal).mono ?_
  rintro e w1 ⟨y1, d1, rfl, k1, e1⟩
  have B1 := hid (grown_on B0.out e1)
  have K1 := hid (K0.out.below e1)
  have Y1 := hid k1
  clear e1 k1 B0 K0 U0
  go_wp2_with fail
  refine (mask_good (m : Int) a w1 (ha.below B1.out) hna (by omega) hm9.out hla).mono ?_
  rintro e w2 ⟨g2, rfl, k2, e2⟩
  rw [Int.toNat_natCast] at k2
  have B2 := hid (grown_on B1.out e2)
  have K2 := hid (K1.out.below e2)
  have Y2 := hid (Y1.out.below e2)
  have Z2 := hid k2
  clear e2 k2 B1 K1 Y1
  go_wp2_with fail
  refine (error_at 0 0 _ w2 (hg.below B2.out) rfl rfl).mono ?_
  rintro e w3 ⟨rfl, e3⟩
  have B3 := hid (grown_on B2.out e3)
  have K3 := hid (K2.out.below e3)
  have Y3 := hid (Y2.out.below e3)
  have Z3 := hid (Z2.out.below e3)
  clear e3 B2 K2 Y2 Z2
  go_wp2_with fail
  refine (bytes_at true _ _ w3 Z3.out Y3.out (by rw [maskN_len]; exact hla) (by rw [maskN_len]; exact hla) (by simp)).mono ?_
  rintro e w4 ⟨rfl, e4⟩
  have B4 := hid (grown_on B3.out e4)
  have K4 := K3.out.below e4
  have HK4 := hid K4
  have s0 := K4.cell (i := 0) rfl
  have s1 := K4.cell (i := 1) rfl
  have s2 := K4.cell (i := 2) rfl
  have s3 := K4.cell (i := 3) rfl
  clear e4 K4 B3 K3 Y3 Z3
  go_wp2_with fail
  refine (sfault_at (x := xs) (c := cs) (l := ls) _ ⟨fam, src, scp, A⟩ w4 hls hs.2.1 rfl).mono ?_
  rintro e w5 ⟨rfl, e5⟩
  have B5 := hid (grown_on B4.out e5)
  have K5 := HK4.out.below e5
  clear s0 s1 s2 s3
  have s0 := K5.cell (i := 0) rfl
  have s1 := K5.cell (i := 1) rfl
  have s2 := K5.cell (i := 2) rfl
  have s3 := K5.cell (i := 3) rfl
  have HK5 := hid K5
  clear e5 K5 B4 HK4
  have hk0 : (snE ⟨fam, src, scp, A⟩ == 0) = false := by rw [beq_eq_false_iff_ne]; exact h0.out
  have HEN := hid (encode_bad (x := xs) (c := cs) (l := ls) ⟨fam, src, scp, A⟩ w5 hls hs.2.1 h0.out)
  obtain ⟨k, hk⟩ : ∃ k, snE ⟨fam, src, scp, A⟩ = k := ⟨_, rfl⟩
  rw [hk] at hk0 HEN ⊢
  clear hk
  go_wp2_with fail
  refine HEN.out.mono ?_
  rintro e w7 ⟨rfl, e7⟩
  have B7 := hid (grown_on B5.out e7)
  have K7 := hid (HK5.out.below e7)
  clear e7 B5 HK5 s0 s1 s2 s3 HEN
  go_wp2_with fail
  refine (error_at k k _ w7 (hg.below B7.out) rfl rfl).mono ?_
  rintro e w8 ⟨rfl, e8⟩
  have B8 := hid (grown_on B7.out e8)
  have K8 := hid (K7.out.below e8)
  clear e8 B7 K7
  go_wp2_with fail
  refine (bytes_at true [] [] w8 (Bys.nil _ none 0) (Bys.nil _ none 0) rfl rfl rfl).mono ?_
  rintro e w9 ⟨rfl, e9⟩
  have B9 := hid (grown_on B8.out e9)
  have K9 := hid (K8.out.below e9)
  clear e9 B8 K8
  go_wp2_with fail
  have xc0 : ∀ s : Cl w9, s.val.cell? ⟨w.heap.size, 0, none⟩ = some (.int .i64 fam) := fun s => (K9.out.below s.hb).cell (i := 0) rfl
  have xc1 : ∀ s : Cl w9, s.val.cell? ⟨w.heap.size, 1, none⟩ = some (.int .i64 src) := fun s => (K9.out.below s.hb).cell (i := 1) rfl
  have xc2 : ∀ s : Cl w9, s.val.cell? ⟨w.heap.size, 2, none⟩ = some (.int .i64 scp) := fun s => (K9.out.below s.hb).cell (i := 2) rfl
  have xc3 : ∀ s : Cl w9, s.val.cell? ⟨w.heap.size, 3, none⟩ = some (.slice xs ls cs) := fun s => (K9.out.below s.hb).cell (i := 3) rfl
  obtain ⟨r, hr⟩ : ∃ r, decide (inN a ⟨fam, src, scp, A⟩) = r := ⟨_, rfl⟩
  have Q1 : Hid (∀ s : Cl w9, Calls Tryd.prog 29 #[.slice xa la ca, .agg #[.int .i64 fam, .int .i64 src, .int .i64 scp, .slice xs ls cs]] s.val fun e w'' => e = .returned (.bool r) ∧ ∃ s' : Cl w9, w'' = s'.val) :=
    hid fun s => Calls.cl (in_at (xs := xs) (cs := cs) (ls := ls) r a ⟨fam, src, scp, A⟩ s.val ((ha.below B9.out).below s.hb) ((hs.below B9.out).below s.hb) hla hls hr)
  have Q2 : Hid (∀ s : Cl w9, Calls Tryd.prog 30 #[.slice xa la ca, .agg #[.int .i64 fam, .int .i64 src, .int .i64 scp, .slice xs ls cs]] s.val fun e w'' => e = .returned (.bool r) ∧ ∃ s' : Cl w9, w'' = s'.val) :=
    hid fun s => Calls.cl (inside_at (xs := xs) (cs := cs) (ls := ls) r a ⟨fam, src, scp, A⟩ s.val ((ha.below B9.out).below s.hb) ((hs.below B9.out).below s.hb) hla hls hr)
  have BE : Hid (∀ u, (∃ s : Cl w9, u = s.val) → Below w.heap.size w u) := hid fun u ⟨s, hs'⟩ => by rw [hs']; exact grown_on B9.out s.hb
  have hrr : (r != r) = false := by cases r <;> rfl
  clear hr
  refine wp_region_class (w0 := w9) (by kernel_rfl) (by kernel_rfl) (Below.refl _ _) ?_
  repeat (go_big_quiet_step (first | (go_at_call 29; exact Q1.out _) | (go_at_call 30; exact Q2.out _)))
  refine wpQuiet_nil ?_
  intro w10 hw10
  have B10 := hid (BE.out _ hw10)
  clear hw10 xc0 xc1 xc2 xc3 Q1 Q2 BE B9 K9
  go_wp2_with fail
  have HDG := hid (fun (u : World) (q : Below w.heap.size w u) => dec_good (hb.below q) hlb h1.out)
  refine (sof_good (hb.below B10.out) hlb h1.out).mono ?_
  rintro e w11 ⟨g11, d11, rfl, k11, e11⟩
  have B11 := hid (grown_on B10.out e11)
  have Y11 := hid k11
  clear e11 k11 B10
  generalize snOf b = S at *
  obtain ⟨f1, u1, p1, A1⟩ := S
  simp only at HDG Y11 ⊢
  have X11 := hid (Bl.new 61 w11 #[.int .i64 f1, .int .i64 u1, .int .i64 p1, .slice (some ⟨g11, 0, none⟩) A1.length d11])
  have B12 := hid (B11.out.alloc B11.out.size (.cells #[.int .i64 f1, .int .i64 u1, .int .i64 p1, .slice (some ⟨g11, 0, none⟩) A1.length d11] 61))
  have Y12 := hid (Y11.out.below ((Below.refl _ _).alloc (Nat.le_refl _) (.cells #[.int .i64 f1, .int .i64 u1, .int .i64 p1, .slice (some ⟨g11, 0, none⟩) A1.length d11] 61)))
  go_wp2_with fail
  refine (HDG.out _ B12.out).mono ?_
  rintro e w13 ⟨g13, d13, rfl, k13, e13⟩
  have B13 := hid (grown_on B12.out e13)
  have X13 := hid (X11.out.below e13)
  have Y13 := hid (Y12.out.below e13)
  have Z13 := hid k13
  clear e13 B12 X11 Y11 Y12 k13 HDG
  have A14 := hid ((Below.refl w13.heap.size w13).alloc (Nat.le_refl _) (.cells #[.int .i64 f1, .int .i64 u1, .int .i64 p1, .slice (some ⟨g13, 0, none⟩) A1.length d13] 61))
  have X14 := hid (X13.out.below A14.out)
  have V14 := hid (Bl.new 61 w13 #[.int .i64 f1, .int .i64 u1, .int .i64 p1, .slice (some ⟨g13, 0, none⟩) A1.length d13])
  have B14 := hid (B13.out.alloc B13.out.size (.cells #[.int .i64 f1, .int .i64 u1, .int .i64 p1, .slice (some ⟨g13, 0, none⟩) A1.length d13] 61))
  go_wp2_with fail
  refine (error_at 0 0 _ _ (hg.below B14.out) rfl rfl).mono ?_
  rintro e w15 ⟨rfl, e15⟩
  have B15 := hid (grown_on B14.out e15)
  have X15 := X14.out.below e15
  have V15 := V14.out.below e15
  have Y15 := hid ((Y13.out.below A14.out).below e15)
  have Z15 := hid ((Z13.out.below A14.out).below e15)
  have x0 := X15.cell (i := 0) rfl
  have x1 := X15.cell (i := 1) rfl
  have x2 := X15.cell (i := 2) rfl
  have x3 := X15.cell (i := 3) rfl
  have v0 := V15.cell (i := 0) rfl
  have v1 := V15.cell (i := 1) rfl
  have v2 := V15.cell (i := 2) rfl
  have v3 := V15.cell (i := 3) rfl
  clear e15 X15 V15 X14 V14 X13 Y13 Z13 A14
  go_wp2_with fail
  refine (nets_true f1 u1 p1 A1 w15 Y15.out Z15.out rfl rfl).mono ?_
  rintro e w16 ⟨rfl, e16⟩
  have B16 := hid (grown_on B15.out e16)
  clear e16
  go_wp2_with fail
  go_ret
  exact ⟨rfl, B16.out⟩

set_option maxHeartbeats 4000000 in
set_option maxRecDepth 100000 in
theorem st_gbb {xa xs xb : Option Addr} {ca la cs ls cb lb : Nat} (a : List Int) (n : Int) (fam src scp : Int) (A b : List Int) (w : World) (ha : Bys w xa ca a) (hs : Bys w xs cs A) (hb : Bys w xb cb b) (hna : xa = none → ca = 0) (hla : a.length = la) (hls : A.length = ls) (hlb : b.length = lb) (hal : a.length ≤ 140737488351232) (hg : Glob w) (hn : 0 ≤ n ∧ n ≤ 8 * (la : Int)) (h0 : Hid (¬ snE ⟨fam, src, scp, A⟩ = 0)) (h1 : Hid (¬ decE b = 0)) :
    Calls Tryd.prog 6 #[.slice xa la ca, .int .i64 n, .agg #[.int .i64 fam, .int .i64 src, .int .i64 scp, .slice xs ls cs], .slice xb lb cb] w fun e w' => e = .returned (.bool true) ∧ Below w.heap.size w w' := by
  have B0 := hid ((Below.refl w.heap.size w).alloc (Nat.le_refl _) (.cells #[.int .i64 fam, .int .i64 src, .int .i64 scp, .slice xs ls cs] 61))
  have K0 := hid (Bl.new 61 w #[.int .i64 fam, .int .i64 src, .int .i64 scp, .slice xs ls cs])
  have U0 := hid ((Below.refl w.heap.size w).alloc (Nat.le_refl _) (.cells #[.int .i64 fam, .int .i64 src, .int .i64 scp, .slice xs ls cs] 61))
  obtain ⟨m, rfl⟩ : ∃ m : Nat, n = (m : Int) := ⟨n.toNat, by omega⟩
  have hn8 : ¬ 8 * (la : Int) < (m : Int) := by omega
  have hm8 : Hid (m ≤ 8 * a.length) := hid (by omega)
  have hm9 : Hid ((m : Int) ≤ 8 * (a.length : Int)) := hid (by omega)
  clear hn
  go_enter Tryd.func6, Tryd.ntmps6
  go_wp2_with fail
  refine (rmask_bys m a _ (ha.below B0.out) hla hm8.out hal).mono ?_
  rintro e w1 ⟨y1, d1, rfl, k1, e1⟩
  have B1 := hid (grown_on B0.out e1)
  have K1 := hid (K0.out.below e1)
  have Y1 := hid k1
  clear e1 k1 B0 K0 U0
  go_wp2_with fail
  refine (mask_good (m : Int) a w1 (ha.below B1.out) hna (by omega) hm9.out hla).mono ?_
  rintro e w2 ⟨g2, rfl, k2, e2⟩
  rw [Int.toNat_natCast] at k2
  have B2 := hid (grown_on B1.out e2)
  have K2 := hid (K1.out.below e2)
  have Y2 := hid (Y1.out.below e2)
  have Z2 := hid k2
  clear e2 k2 B1 K1 Y1
  go_wp2_with fail
  refine (error_at 0 0 _ w2 (hg.below B2.out) rfl rfl).mono ?_
  rintro e w3 ⟨rfl, e3⟩
  have B3 := hid (grown_on B2.out e3)
  have K3 := hid (K2.out.below e3)
  have Y3 := hid (Y2.out.below e3)
  have Z3 := hid (Z2.out.below e3)
  clear e3 B2 K2 Y2 Z2
  go_wp2_with fail
  refine (bytes_at true _ _ w3 Z3.out Y3.out (by rw [maskN_len]; exact hla) (by rw [maskN_len]; exact hla) (by simp)).mono ?_
  rintro e w4 ⟨rfl, e4⟩
  have B4 := hid (grown_on B3.out e4)
  have K4 := K3.out.below e4
  have HK4 := hid K4
  have s0 := K4.cell (i := 0) rfl
  have s1 := K4.cell (i := 1) rfl
  have s2 := K4.cell (i := 2) rfl
  have s3 := K4.cell (i := 3) rfl
  clear e4 K4 B3 K3 Y3 Z3
  go_wp2_with fail
  refine (sfault_at (x := xs) (c := cs) (l := ls) _ ⟨fam, src, scp, A⟩ w4 hls hs.2.1 rfl).mono ?_
  rintro e w5 ⟨rfl, e5⟩
  have B5 := hid (grown_on B4.out e5)
  have K5 := HK4.out.below e5
  clear s0 s1 s2 s3
  have s0 := K5.cell (i := 0) rfl
  have s1 := K5.cell (i := 1) rfl
  have s2 := K5.cell (i := 2) rfl
  have s3 := K5.cell (i := 3) rfl
  have HK5 := hid K5
  clear e5 K5 B4 HK4
  have hk0 : (snE ⟨fam, src, scp, A⟩ == 0) = false := by rw [beq_eq_false_iff_ne]; exact h0.out
  have HEN := hid (encode_bad (x := xs) (c := cs) (l := ls) ⟨fam, src, scp, A⟩ w5 hls hs.2.1 h0.out)
  obtain ⟨k, hk⟩ : ∃ k, snE ⟨fam, src, scp, A⟩ = k := ⟨_, rfl⟩
  rw [hk] at hk0 HEN ⊢
  clear hk
  go_wp2_with fail
  refine HEN.out.mono ?_
  rintro e w7 ⟨rfl, e7⟩
  have B7 := hid (grown_on B5.out e7)
  have K7 := hid (HK5.out.below e7)
  clear e7 B5 HK5 s0 s1 s2 s3 HEN
  go_wp2_with fail
  refine (error_at k k _ w7 (hg.below B7.out) rfl rfl).mono ?_
  rintro e w8 ⟨rfl, e8⟩
  have B8 := hid (grown_on B7.out e8)
  have K8 := hid (K7.out.below e8)
  clear e8 B7 K7
  go_wp2_with fail
  refine (bytes_at true [] [] w8 (Bys.nil _ none 0) (Bys.nil _ none 0) rfl rfl rfl).mono ?_
  rintro e w9 ⟨rfl, e9⟩
  have B9 := hid (grown_on B8.out e9)
  have K9 := hid (K8.out.below e9)
  clear e9 B8 K8
  go_wp2_with fail
  have xc0 : ∀ s : Cl w9, s.val.cell? ⟨w.heap.size, 0, none⟩ = some (.int .i64 fam) := fun s => (K9.out.below s.hb).cell (i := 0) rfl
  have xc1 : ∀ s : Cl w9, s.val.cell? ⟨w.heap.size, 1, none⟩ = some (.int .i64 src) := fun s => (K9.out.below s.hb).cell (i := 1) rfl
  have xc2 : ∀ s : Cl w9, s.val.cell? ⟨w.heap.size, 2, none⟩ = some (.int .i64 scp) := fun s => (K9.out.below s.hb).cell (i := 2) rfl
  have xc3 : ∀ s : Cl w9, s.val.cell? ⟨w.heap.size, 3, none⟩ = some (.slice xs ls cs) := fun s => (K9.out.below s.hb).cell (i := 3) rfl
  obtain ⟨r, hr⟩ : ∃ r, decide (inN a ⟨fam, src, scp, A⟩) = r := ⟨_, rfl⟩
  have Q1 : Hid (∀ s : Cl w9, Calls Tryd.prog 29 #[.slice xa la ca, .agg #[.int .i64 fam, .int .i64 src, .int .i64 scp, .slice xs ls cs]] s.val fun e w'' => e = .returned (.bool r) ∧ ∃ s' : Cl w9, w'' = s'.val) :=
    hid fun s => Calls.cl (in_at (xs := xs) (cs := cs) (ls := ls) r a ⟨fam, src, scp, A⟩ s.val ((ha.below B9.out).below s.hb) ((hs.below B9.out).below s.hb) hla hls hr)
  have Q2 : Hid (∀ s : Cl w9, Calls Tryd.prog 30 #[.slice xa la ca, .agg #[.int .i64 fam, .int .i64 src, .int .i64 scp, .slice xs ls cs]] s.val fun e w'' => e = .returned (.bool r) ∧ ∃ s' : Cl w9, w'' = s'.val) :=
    hid fun s => Calls.cl (inside_at (xs := xs) (cs := cs) (ls := ls) r a ⟨fam, src, scp, A⟩ s.val ((ha.below B9.out).below s.hb) ((hs.below B9.out).below s.hb) hla hls hr)
  have BE : Hid (∀ u, (∃ s : Cl w9, u = s.val) → Below w.heap.size w u) := hid fun u ⟨s, hs'⟩ => by rw [hs']; exact grown_on B9.out s.hb
  have hrr : (r != r) = false := by cases r <;> rfl
  clear hr
  refine wp_region_class (w0 := w9) (by kernel_rfl) (by kernel_rfl) (Below.refl _ _) ?_
  repeat (go_big_quiet_step (first | (go_at_call 29; exact Q1.out _) | (go_at_call 30; exact Q2.out _)))
  refine wpQuiet_nil ?_
  intro w10 hw10
  have B10 := hid (BE.out _ hw10)
  clear hw10 xc0 xc1 xc2 xc3 Q1 Q2 BE B9 K9
  go_wp2_with fail
  refine (sof_bad (hb.below B10.out) hlb h1.out).mono ?_
  rintro e w11 ⟨rfl, e11⟩
  have B11 := hid (grown_on B10.out e11)
  clear e11 B10
  have X11 := hid (Bl.new 61 w11 #[.int .i64 0, .int .i64 0, .int .i64 0, .slice none 0 0])
  have B12 := hid (B11.out.alloc B11.out.size (.cells #[.int .i64 0, .int .i64 0, .int .i64 0, .slice none 0 0] 61))
  go_wp2_with fail
  refine (dec_bad (hb.below B12.out) hlb h1.out).mono ?_
  rintro e w13 ⟨rfl, e13⟩
  have B13 := hid (grown_on B12.out e13)
  have X13 := hid (X11.out.below e13)
  clear e13 B12 X11
  obtain ⟨k3, hk3⟩ : ∃ k3, decE b = k3 := ⟨_, rfl⟩
  rw [hk3]
  clear hk3
  have X14 := hid (X13.out.below ((Below.refl _ _).alloc (Nat.le_refl _) (.cells #[.int .i64 0, .int .i64 0, .int .i64 0, .slice none 0 0] 61)))
  have V14 := hid (Bl.new 61 w13 #[.int .i64 0, .int .i64 0, .int .i64 0, .slice none 0 0])
  have B14 := hid (B13.out.alloc B13.out.size (.cells #[.int .i64 0, .int .i64 0, .int .i64 0, .slice none 0 0] 61))
  go_wp2_with fail
  refine (error_at k3 k3 _ _ (hg.below B14.out) rfl rfl).mono ?_
  rintro e w15 ⟨rfl, e15⟩
  have B15 := hid (grown_on B14.out e15)
  have X15 := X14.out.below e15
  have V15 := V14.out.below e15
  have x0 := X15.cell (i := 0) rfl
  have x1 := X15.cell (i := 1) rfl
  have x2 := X15.cell (i := 2) rfl
  have x3 := X15.cell (i := 3) rfl
  have v0 := V15.cell (i := 0) rfl
  have v1 := V15.cell (i := 1) rfl
  have v2 := V15.cell (i := 2) rfl
  have v3 := V15.cell (i := 3) rfl
  clear e15 X15 V15 X14 V14 X13
  go_wp2_with fail
  refine (nets_true 0 0 0 [] w15 (Bys.nil _ none 0) (Bys.nil _ none 0) rfl rfl).mono ?_
  rintro e w16 ⟨rfl, e16⟩
  have B16 := hid (grown_on B15.out e16)
  clear e16
  go_wp2_with fail
  go_ret
  exact ⟨rfl, B16.out⟩

set_option maxHeartbeats 4000000 in
set_option maxRecDepth 100000 in
theorem st_lgg {xa xs xb : Option Addr} {ca la cs ls cb lb : Nat} (a : List Int) (n : Int) (fam src scp : Int) (A b : List Int) (w : World) (ha : Bys w xa ca a) (hs : Bys w xs cs A) (hb : Bys w xb cb b) (_hna : xa = none → ca = 0) (hla : a.length = la) (hls : A.length = ls) (hlb : b.length = lb) (hal : a.length ≤ 140737488351232) (hg : Glob w) (hn : ¬ (0 ≤ n ∧ n ≤ 8 * (la : Int))) (hn1 : n < 0) (h0 : Hid (snE ⟨fam, src, scp, A⟩ = 0)) (h1 : Hid (decE b = 0)) :
    Calls Tryd.prog 6 #[.slice xa la ca, .int .i64 n, .agg #[.int .i64 fam, .int .i64 src, .int .i64 scp, .slice xs ls cs], .slice xb lb cb] w fun e w' => e = .returned (.bool true) ∧ Below w.heap.size w w' := by
  have B0 := hid ((Below.refl w.heap.size w).alloc (Nat.le_refl _) (.cells #[.int .i64 fam, .int .i64 src, .int .i64 scp, .slice xs ls cs] 61))
  have K0 := hid (Bl.new 61 w #[.int .i64 fam, .int .i64 src, .int .i64 scp, .slice xs ls cs])
  have U0 := hid ((Below.refl w.heap.size w).alloc (Nat.le_refl _) (.cells #[.int .i64 fam, .int .i64 src, .int .i64 scp, .slice xs ls cs] 61))
  have HN := hid hn
  clear hn
  go_enter Tryd.func6, Tryd.ntmps6
  go_wp2_with fail
  refine (mask_bad n _ (by omega) HN.out).mono ?_
  rintro e w2 ⟨rfl, rfl⟩
  go_wp2_with fail
  refine (error_at 6 6 _ _ (hg.below B0.out) rfl rfl).mono ?_
  rintro e w3 ⟨rfl, e3⟩
  have B3 := hid (grown_on B0.out e3)
  have K3 := hid (K0.out.below e3)
  clear e3 B0 K0 U0
  go_wp2_with fail
  refine (bytes_at true [] [] w3 (Bys.nil _ none 0) (Bys.nil _ none 0) rfl rfl rfl).mono ?_
  rintro e w4 ⟨rfl, e4⟩
  have B4 := hid (grown_on B3.out e4)
  have K4 := K3.out.below e4
  have HK4 := hid K4
  have s0 := K4.cell (i := 0) rfl
  have s1 := K4.cell (i := 1) rfl
  have s2 := K4.cell (i := 2) rfl
  have s3 := K4.cell (i := 3) rfl
  clear e4 K4 B3 K3
  go_wp2_with fail
  refine (sfault_at (x := xs) (c := cs) (l := ls) _ ⟨fam, src, scp, A⟩ w4 hls hs.2.1 rfl).mono ?_
  rintro e w5 ⟨rfl, e5⟩
  have B5 := hid (grown_on B4.out e5)
  have K5 := HK4.out.below e5
  clear s0 s1 s2 s3
  have s0 := K5.cell (i := 0) rfl
  have s1 := K5.cell (i := 1) rfl
  have s2 := K5.cell (i := 2) rfl
  have s3 := K5.cell (i := 3) rfl
  have HK5 := hid K5
  clear e5 K5 B4 HK4
  rw [h0.out]
  go_wp2_with fail
  refine (sbytes_any (x := xs) (c := cs) (l := ls) ⟨fam, src, scp, A⟩ w5 (hs.below B5.out) hls h0.out).mono ?_
  rintro e w6 ⟨b6, o6, c6, rfl, k6, _, e6⟩
  have B6 := hid (grown_on B5.out e6)
  have K6 := HK5.out.below e6
  have Y6 := hid k6
  clear s0 s1 s2 s3
  have s0 := K6.cell (i := 0) rfl
  have s1 := K6.cell (i := 1) rfl
  have s2 := K6.cell (i := 2) rfl
  have s3 := K6.cell (i := 3) rfl
  have HK6 := hid K6
  clear e6 K6 B5 HK5 k6
  go_wp2_with fail
  refine (encode_good (x := xs) (c := cs) (l := ls) ⟨fam, src, scp, A⟩ w6 (hs.below B6.out) hls h0.out).mono ?_
  rintro e w7 ⟨b7, o7, c7, rfl, k7, _, e7⟩
  have B7 := hid (grown_on B6.out e7)
  have K7 := hid (HK6.out.below e7)
  have Y7 := hid (Y6.out.below e7)
  have Z7 := hid k7
  clear e7 B6 HK6 k7 Y6 s0 s1 s2 s3
  go_wp2_with fail
  refine (error_at 0 0 _ w7 (hg.below B7.out) rfl rfl).mono ?_
  rintro e w8 ⟨rfl, e8⟩
  have B8 := hid (grown_on B7.out e8)
  have K8 := hid (K7.out.below e8)
  have Y8 := hid (Y7.out.below e8)
  have Z8 := hid (Z7.out.below e8)
  clear e8 B7 K7 Y7 Z7
  go_wp2_with fail
  refine (bytes_at true _ _ w8 Z8.out Y8.out rfl rfl (by simp)).mono ?_
  rintro e w9 ⟨rfl, e9⟩
  have B9 := hid (grown_on B8.out e9)
  have K9 := hid (K8.out.below e9)
  clear e9 B8 K8 Y8 Z8
  go_wp2_with fail
  have xc0 : ∀ s : Cl w9, s.val.cell? ⟨w.heap.size, 0, none⟩ = some (.int .i64 fam) := fun s => (K9.out.below s.hb).cell (i := 0) rfl
  have xc1 : ∀ s : Cl w9, s.val.cell? ⟨w.heap.size, 1, none⟩ = some (.int .i64 src) := fun s => (K9.out.below s.hb).cell (i := 1) rfl
  have xc2 : ∀ s : Cl w9, s.val.cell? ⟨w.heap.size, 2, none⟩ = some (.int .i64 scp) := fun s => (K9.out.below s.hb).cell (i := 2) rfl
  have xc3 : ∀ s : Cl w9, s.val.cell? ⟨w.heap.size, 3, none⟩ = some (.slice xs ls cs) := fun s => (K9.out.below s.hb).cell (i := 3) rfl
  obtain ⟨r, hr⟩ : ∃ r, decide (inN a ⟨fam, src, scp, A⟩) = r := ⟨_, rfl⟩
  have Q1 : Hid (∀ s : Cl w9, Calls Tryd.prog 29 #[.slice xa la ca, .agg #[.int .i64 fam, .int .i64 src, .int .i64 scp, .slice xs ls cs]] s.val fun e w'' => e = .returned (.bool r) ∧ ∃ s' : Cl w9, w'' = s'.val) :=
    hid fun s => Calls.cl (in_at (xs := xs) (cs := cs) (ls := ls) r a ⟨fam, src, scp, A⟩ s.val ((ha.below B9.out).below s.hb) ((hs.below B9.out).below s.hb) hla hls hr)
  have Q2 : Hid (∀ s : Cl w9, Calls Tryd.prog 30 #[.slice xa la ca, .agg #[.int .i64 fam, .int .i64 src, .int .i64 scp, .slice xs ls cs]] s.val fun e w'' => e = .returned (.bool r) ∧ ∃ s' : Cl w9, w'' = s'.val) :=
    hid fun s => Calls.cl (inside_at (xs := xs) (cs := cs) (ls := ls) r a ⟨fam, src, scp, A⟩ s.val ((ha.below B9.out).below s.hb) ((hs.below B9.out).below s.hb) hla hls hr)
  have BE : Hid (∀ u, (∃ s : Cl w9, u = s.val) → Below w.heap.size w u) := hid fun u ⟨s, hs'⟩ => by rw [hs']; exact grown_on B9.out s.hb
  have hrr : (r != r) = false := by cases r <;> rfl
  clear hr
  refine wp_region_class (w0 := w9) (by kernel_rfl) (by kernel_rfl) (Below.refl _ _) ?_
  repeat (go_big_quiet_step (first | (go_at_call 29; exact Q1.out _) | (go_at_call 30; exact Q2.out _)))
  refine wpQuiet_nil ?_
  intro w10 hw10
  have B10 := hid (BE.out _ hw10)
  clear hw10 xc0 xc1 xc2 xc3 Q1 Q2 BE B9 K9
  go_wp2_with fail
  have HDG := hid (fun (u : World) (q : Below w.heap.size w u) => dec_good (hb.below q) hlb h1.out)
  refine (sof_good (hb.below B10.out) hlb h1.out).mono ?_
  rintro e w11 ⟨g11, d11, rfl, k11, e11⟩
  have B11 := hid (grown_on B10.out e11)
  have Y11 := hid k11
  clear e11 k11 B10
  generalize snOf b = S at *
  obtain ⟨f1, u1, p1, A1⟩ := S
  simp only at HDG Y11 ⊢
  have X11 := hid (Bl.new 61 w11 #[.int .i64 f1, .int .i64 u1, .int .i64 p1, .slice (some ⟨g11, 0, none⟩) A1.length d11])
  have B12 := hid (B11.out.alloc B11.out.size (.cells #[.int .i64 f1, .int .i64 u1, .int .i64 p1, .slice (some ⟨g11, 0, none⟩) A1.length d11] 61))
  have Y12 := hid (Y11.out.below ((Below.refl _ _).alloc (Nat.le_refl _) (.cells #[.int .i64 f1, .int .i64 u1, .int .i64 p1, .slice (some ⟨g11, 0, none⟩) A1.length d11] 61)))
  go_wp2_with fail
  refine (HDG.out _ B12.out).mono ?_
  rintro e w13 ⟨g13, d13, rfl, k13, e13⟩
  have B13 := hid (grown_on B12.out e13)
  have X13 := hid (X11.out.below e13)
  have Y13 := hid (Y12.out.below e13)
  have Z13 := hid k13
  clear e13 B12 X11 Y11 Y12 k13 HDG
  have A14 := hid ((Below.refl w13.heap.size w13).alloc (Nat.le_refl _) (.cells #[.int .i64 f1, .int .i64 u1, .int .i64 p1, .slice (some ⟨g13, 0, none⟩) A1.length d13] 61))
  have X14 := hid (X13.out.below A14.out)
  have V14 := hid (Bl.new 61 w13 #[.int .i64 f1, .int .i64 u1, .int .i64 p1, .slice (some ⟨g13, 0, none⟩) A1.length d13])
  have B14 := hid (B13.out.alloc B13.out.size (.cells #[.int .i64 f1, .int .i64 u1, .int .i64 p1, .slice (some ⟨g13, 0, none⟩) A1.length d13] 61))
  go_wp2_with fail
  refine (error_at 0 0 _ _ (hg.below B14.out) rfl rfl).mono ?_
  rintro e w15 ⟨rfl, e15⟩
  have B15 := hid (grown_on B14.out e15)
  have X15 := X14.out.below e15
  have V15 := V14.out.below e15
  have Y15 := hid ((Y13.out.below A14.out).below e15)
  have Z15 := hid ((Z13.out.below A14.out).below e15)
  have x0 := X15.cell (i := 0) rfl
  have x1 := X15.cell (i := 1) rfl
  have x2 := X15.cell (i := 2) rfl
  have x3 := X15.cell (i := 3) rfl
  have v0 := V15.cell (i := 0) rfl
  have v1 := V15.cell (i := 1) rfl
  have v2 := V15.cell (i := 2) rfl
  have v3 := V15.cell (i := 3) rfl
  clear e15 X15 V15 X14 V14 X13 Y13 Z13 A14
  go_wp2_with fail
  refine (nets_true f1 u1 p1 A1 w15 Y15.out Z15.out rfl rfl).mono ?_
  rintro e w16 ⟨rfl, e16⟩
  have B16 := hid (grown_on B15.out e16)
  clear e16
  go_wp2_with fail
  go_ret
  exact ⟨rfl, B16.out⟩

set_option maxHeartbeats 4000000 in
set_option maxRecDepth 100000 in
theorem st_lgb {xa xs xb : Option Addr} {ca la cs ls cb lb : Nat} (a : List Int) (n : Int) (fam src scp : Int) (A b : List Int) (w : World) (ha : Bys w xa ca a) (hs : Bys w xs cs A) (hb : Bys w xb cb b) (_hna : xa = none → ca = 0) (hla : a.length = la) (hls : A.length = ls) (hlb : b.length = lb) (hal : a.length ≤ 140737488351232) (hg : Glob w) (hn : ¬ (0 ≤ n ∧ n ≤ 8 * (la : Int))) (hn1 : n < 0) (h0 : Hid (snE ⟨fam, src, scp, A⟩ = 0)) (h1 : Hid (¬ decE b = 0)) :
    Calls Tryd.prog 6 #[.slice xa la ca, .int .i64 n, .agg #[.int .i64 fam, .int .i64 src, .int .i64 scp, .slice xs ls cs], .slice xb lb cb] w fun e w' => e = .returned (.bool true) ∧ Below w.heap.size w w' := by
  have B0 := hid ((Below.refl w.heap.size w).alloc (Nat.le_refl _) (.cells #[.int .i64 fam, .int .i64 src, .int .i64 scp, .slice xs ls cs] 61))
  have K0 := hid (Bl.new 61 w #[.int .i64 fam, .int .i64 src, .int .i64 scp, .slice xs ls cs])
  have U0 := hid ((Below.refl w.heap.size w).alloc (Nat.le_refl _) (.cells #[.int .i64 fam, .int .i64 src, .int .i64 scp, .slice xs ls cs] 61))
  have HN := hid hn
  clear hn
  go_enter Tryd.func6, Tryd.ntmps6
  go_wp2_with fail
  refine (mask_bad n _ (by omega) HN.out).mono ?_
  rintro e w2 ⟨rfl, rfl⟩
  go_wp2_with fail
  refine (error_at 6 6 _ _ (hg.below B0.out) rfl rfl).mono ?_
  rintro e w3 ⟨rfl, e3⟩
  have B3 := hid (grown_on B0.out e3)
  have K3 := hid (K0.out.below e3)
  clear e3 B0 K0 U0
  go_wp2_with fail
  refine (bytes_at true [] [] w3 (Bys.nil _ none 0) (Bys.nil _ none 0) rfl rfl rfl).mono ?_
  rintro e w4 ⟨rfl, e4⟩
  have B4 := hid (grown_on B3.out e4)
  have K4 := K3.out.below e4
  have HK4 := hid K4
  have s0 := K4.cell (i := 0) rfl
  have s1 := K4.cell (i := 1) rfl
  have s2 := K4.cell (i := 2) rfl
  have s3 := K4.cell (i := 3) rfl
  clear e4 K4 B3 K3
  go_wp2_with fail
  refine (sfault_at (x := xs) (c := cs) (l := ls) _ ⟨fam, src, scp, A⟩ w4 hls hs.2.1 rfl).mono ?_
  rintro e w5 ⟨rfl, e5⟩
  have B5 := hid (grown_on B4.out e5)
  have K5 := HK4.out.below e5
  clear s0 s1 s2 s3
  have s0 := K5.cell (i := 0) rfl
  have s1 := K5.cell (i := 1) rfl
  have s2 := K5.cell (i := 2) rfl
  have s3 := K5.cell (i := 3) rfl
  have HK5 := hid K5
  clear e5 K5 B4 HK4
  rw [h0.out]
  go_wp2_with fail
  refine (sbytes_any (x := xs) (c := cs) (l := ls) ⟨fam, src, scp, A⟩ w5 (hs.below B5.out) hls h0.out).mono ?_
  rintro e w6 ⟨b6, o6, c6, rfl, k6, _, e6⟩
  have B6 := hid (grown_on B5.out e6)
  have K6 := HK5.out.below e6
  have Y6 := hid k6
  clear s0 s1 s2 s3
  have s0 := K6.cell (i := 0) rfl
  have s1 := K6.cell (i := 1) rfl
  have s2 := K6.cell (i := 2) rfl
  have s3 := K6.cell (i := 3) rfl
  have HK6 := hid K6
  clear e6 K6 B5 HK5 k6
  go_wp2_with fail
  refine (encode_good (x := xs) (c := cs) (l := ls) ⟨fam, src, scp, A⟩ w6 (hs.below B6.out) hls h0.out).mono ?_
  rintro e w7 ⟨b7, o7, c7, rfl, k7, _, e7⟩
  have B7 := hid (grown_on B6.out e7)
  have K7 := hid (HK6.out.below e7)
  have Y7 := hid (Y6.out.below e7)
  have Z7 := hid k7
  clear e7 B6 HK6 k7 Y6 s0 s1 s2 s3
  go_wp2_with fail
  refine (error_at 0 0 _ w7 (hg.below B7.out) rfl rfl).mono ?_
  rintro e w8 ⟨rfl, e8⟩
  have B8 := hid (grown_on B7.out e8)
  have K8 := hid (K7.out.below e8)
  have Y8 := hid (Y7.out.below e8)
  have Z8 := hid (Z7.out.below e8)
  clear e8 B7 K7 Y7 Z7
  go_wp2_with fail
  refine (bytes_at true _ _ w8 Z8.out Y8.out rfl rfl (by simp)).mono ?_
  rintro e w9 ⟨rfl, e9⟩
  have B9 := hid (grown_on B8.out e9)
  have K9 := hid (K8.out.below e9)
  clear e9 B8 K8 Y8 Z8
  go_wp2_with fail
  have xc0 : ∀ s : Cl w9, s.val.cell? ⟨w.heap.size, 0, none⟩ = some (.int .i64 fam) := fun s => (K9.out.below s.hb).cell (i := 0) rfl
  have xc1 : ∀ s : Cl w9, s.val.cell? ⟨w.heap.size, 1, none⟩ = some (.int .i64 src) := fun s => (K9.out.below s.hb).cell (i := 1) rfl
  have xc2 : ∀ s : Cl w9, s.val.cell? ⟨w.heap.size, 2, none⟩ = some (.int .i64 scp) := fun s => (K9.out.below s.hb).cell (i := 2) rfl
  have xc3 : ∀ s : Cl w9, s.val.cell? ⟨w.heap.size, 3, none⟩ = some (.slice xs ls cs) := fun s => (K9.out.below s.hb).cell (i := 3) rfl
  obtain ⟨r, hr⟩ : ∃ r, decide (inN a ⟨fam, src, scp, A⟩) = r := ⟨_, rfl⟩
  have Q1 : Hid (∀ s : Cl w9, Calls Tryd.prog 29 #[.slice xa la ca, .agg #[.int .i64 fam, .int .i64 src, .int .i64 scp, .slice xs ls cs]] s.val fun e w'' => e = .returned (.bool r) ∧ ∃ s' : Cl w9, w'' = s'.val) :=
    hid fun s => Calls.cl (in_at (xs := xs) (cs := cs) (ls := ls) r a ⟨fam, src, scp, A⟩ s.val ((ha.below B9.out).below s.hb) ((hs.below B9.out).below s.hb) hla hls hr)
  have Q2 : Hid (∀ s : Cl w9, Calls Tryd.prog 30 #[.slice xa la ca, .agg #[.int .i64 fam, .int .i64 src, .int .i64 scp, .slice xs ls cs]] s.val fun e w'' => e = .returned (.bool r) ∧ ∃ s' : Cl w9, w'' = s'.val) :=
    hid fun s => Calls.cl (inside_at (xs := xs) (cs := cs) (ls := ls) r a ⟨fam, src, scp, A⟩ s.val ((ha.below B9.out).below s.hb) ((hs.below B9.out).below s.hb) hla hls hr)
  have BE : Hid (∀ u, (∃ s : Cl w9, u = s.val) → Below w.heap.size w u) := hid fun u ⟨s, hs'⟩ => by rw [hs']; exact grown_on B9.out s.hb
  have hrr : (r != r) = false := by cases r <;> rfl
  clear hr
  refine wp_region_class (w0 := w9) (by kernel_rfl) (by kernel_rfl) (Below.refl _ _) ?_
  repeat (go_big_quiet_step (first | (go_at_call 29; exact Q1.out _) | (go_at_call 30; exact Q2.out _)))
  refine wpQuiet_nil ?_
  intro w10 hw10
  have B10 := hid (BE.out _ hw10)
  clear hw10 xc0 xc1 xc2 xc3 Q1 Q2 BE B9 K9
  go_wp2_with fail
  refine (sof_bad (hb.below B10.out) hlb h1.out).mono ?_
  rintro e w11 ⟨rfl, e11⟩
  have B11 := hid (grown_on B10.out e11)
  clear e11 B10
  have X11 := hid (Bl.new 61 w11 #[.int .i64 0, .int .i64 0, .int .i64 0, .slice none 0 0])
  have B12 := hid (B11.out.alloc B11.out.size (.cells #[.int .i64 0, .int .i64 0, .int .i64 0, .slice none 0 0] 61))
  go_wp2_with fail
  refine (dec_bad (hb.below B12.out) hlb h1.out).mono ?_
  rintro e w13 ⟨rfl, e13⟩
  have B13 := hid (grown_on B12.out e13)
  have X13 := hid (X11.out.below e13)
  clear e13 B12 X11
  obtain ⟨k3, hk3⟩ : ∃ k3, decE b = k3 := ⟨_, rfl⟩
  rw [hk3]
  clear hk3
  have X14 := hid (X13.out.below ((Below.refl _ _).alloc (Nat.le_refl _) (.cells #[.int .i64 0, .int .i64 0, .int .i64 0, .slice none 0 0] 61)))
  have V14 := hid (Bl.new 61 w13 #[.int .i64 0, .int .i64 0, .int .i64 0, .slice none 0 0])
  have B14 := hid (B13.out.alloc B13.out.size (.cells #[.int .i64 0, .int .i64 0, .int .i64 0, .slice none 0 0] 61))
  go_wp2_with fail
  refine (error_at k3 k3 _ _ (hg.below B14.out) rfl rfl).mono ?_
  rintro e w15 ⟨rfl, e15⟩
  have B15 := hid (grown_on B14.out e15)
  have X15 := X14.out.below e15
  have V15 := V14.out.below e15
  have x0 := X15.cell (i := 0) rfl
  have x1 := X15.cell (i := 1) rfl
  have x2 := X15.cell (i := 2) rfl
  have x3 := X15.cell (i := 3) rfl
  have v0 := V15.cell (i := 0) rfl
  have v1 := V15.cell (i := 1) rfl
  have v2 := V15.cell (i := 2) rfl
  have v3 := V15.cell (i := 3) rfl
  clear e15 X15 V15 X14 V14 X13
  go_wp2_with fail
  refine (nets_true 0 0 0 [] w15 (Bys.nil _ none 0) (Bys.nil _ none 0) rfl rfl).mono ?_
  rintro e w16 ⟨rfl, e16⟩
  have B16 := hid (grown_on B15.out e16)
  clear e16
  go_wp2_with fail
  go_ret
  exact ⟨rfl, B16.out⟩

set_option maxHeartbeats 4000000 in
set_option maxRecDepth 100000 in
theorem st_lbg {xa xs xb : Option Addr} {ca la cs ls cb lb : Nat} (a : List Int) (n : Int) (fam src scp : Int) (A b : List Int) (w : World) (ha : Bys w xa ca a) (hs : Bys w xs cs A) (hb : Bys w xb cb b) (_hna : xa = none → ca = 0) (hla : a.length = la) (hls : A.length = ls) (hlb : b.length = lb) (hal : a.length ≤ 140737488351232) (hg : Glob w) (hn : ¬ (0 ≤ n ∧ n ≤ 8 * (la : Int))) (hn1 : n < 0) (h0 : Hid (¬ snE ⟨fam, src, scp, A⟩ = 0)) (h1 : Hid (decE b = 0)) :
    Calls Tryd.prog 6 #[.slice xa la ca, .int .i64 n, .agg #[.int .i64 fam, .int .i64 src, .int .i64 scp, .slice xs ls cs], .slice xb lb cb] w fun e w' => e = .returned (.bool true) ∧ Below w.heap.size w w' := by
  have B0 := hid ((Below.refl w.heap.size w).alloc (Nat.le_refl _) (.cells #[.int .i64 fam, .int .i64 src, .int .i64 scp, .slice xs ls cs] 61))
  have K0 := hid (Bl.new 61 w #[.int .i64 fam, .int .i64 src, .int .i64 scp, .slice xs ls cs])
  have U0 := hid ((Below.refl w.heap.size w).alloc (Nat.le_refl _) (.cells #[.int .i64 fam, .int .i64 src, .int .i64 scp, .slice xs ls cs] 61))
  have HN := hid hn
  clear hn
  go_enter Tryd.func6, Tryd.ntmps6
  go_wp2_with fail
  refine (mask_bad n _ (by omega) HN.out).mono ?_
  rintro e w2 ⟨rfl, rfl⟩
  go_wp2_with fail
  refine (error_at 6 6 _ _ (hg.below B0.out) rfl rfl).mono ?_
  rintro e w3 ⟨rfl, e3⟩
  have B3 := hid (grown_on B0.out e3)
  have K3 := hid (K0.out.below e3)
  clear e3 B0 K0 U0
  go_wp2_with fail
  refine (bytes_at true [] [] w3 (Bys.nil _ none 0) (Bys.nil _ none 0) rfl rfl rfl).mono ?_
  rintro e w4 ⟨rfl, e4⟩
  have B4 := hid (grown_on B3.out e4)
  have K4 := K3.out.below e4
  have HK4 := hid K4
  have s0 := K4.cell (i := 0) rfl
  have s1 := K4.cell (i := 1) rfl
  have s2 := K4.cell (i := 2) rfl
  have s3 := K4.cell (i := 3) rfl
  clear e4 K4 B3 K3
  go_wp2_with fail
  refine (sfault_at (x := xs) (c := cs) (l := ls) _ ⟨fam, src, scp, A⟩ w4 hls hs.2.1 rfl).mono ?_
  rintro e w5 ⟨rfl, e5⟩
  have B5 := hid (grown_on B4.out e5)
  have K5 := HK4.out.below e5
  clear s0 s1 s2 s3
  have s0 := K5.cell (i := 0) rfl
  have s1 := K5.cell (i := 1) rfl
  have s2 := K5.cell (i := 2) rfl
  have s3 := K5.cell (i := 3) rfl
  have HK5 := hid K5
  clear e5 K5 B4 HK4
  have hk0 : (snE ⟨fam, src, scp, A⟩ == 0) = false := by rw [beq_eq_false_iff_ne]; exact h0.out
  have HEN := hid (encode_bad (x := xs) (c := cs) (l := ls) ⟨fam, src, scp, A⟩ w5 hls hs.2.1 h0.out)
  obtain ⟨k, hk⟩ : ∃ k, snE ⟨fam, src, scp, A⟩ = k := ⟨_, rfl⟩
  rw [hk] at hk0 HEN ⊢
  clear hk
  go_wp2_with fail
  refine HEN.out.mono ?_
  rintro e w7 ⟨rfl, e7⟩
  have B7 := hid (grown_on B5.out e7)
  have K7 := hid (HK5.out.below e7)
  clear e7 B5 HK5 s0 s1 s2 s3 HEN
  go_wp2_with fail
  refine (error_at k k _ w7 (hg.below B7.out) rfl rfl).mono ?_
  rintro e w8 ⟨rfl, e8⟩
  have B8 := hid (grown_on B7.out e8)
  have K8 := hid (K7.out.below e8)
  clear e8 B7 K7
  go_wp2_with fail
  refine (bytes_at true [] [] w8 (Bys.nil _ none 0) (Bys.nil _ none 0) rfl rfl rfl).mono ?_
  rintro e w9 ⟨rfl, e9⟩
  have B9 := hid (grown_on B8.out e9)
  have K9 := hid (K8.out.below e9)
  clear e9 B8 K8
  go_wp2_with fail
  have xc0 : ∀ s : Cl w9, s.val.cell? ⟨w.heap.size, 0, none⟩ = some (.int .i64 fam) := fun s => (K9.out.below s.hb).cell (i := 0) rfl
  have xc1 : ∀ s : Cl w9, s.val.cell? ⟨w.heap.size, 1, none⟩ = some (.int .i64 src) := fun s => (K9.out.below s.hb).cell (i := 1) rfl
  have xc2 : ∀ s : Cl w9, s.val.cell? ⟨w.heap.size, 2, none⟩ = some (.int .i64 scp) := fun s => (K9.out.below s.hb).cell (i := 2) rfl
  have xc3 : ∀ s : Cl w9, s.val.cell? ⟨w.heap.size, 3, none⟩ = some (.slice xs ls cs) := fun s => (K9.out.below s.hb).cell (i := 3) rfl
  obtain ⟨r, hr⟩ : ∃ r, decide (inN a ⟨fam, src, scp, A⟩) = r := ⟨_, rfl⟩
  have Q1 : Hid (∀ s : Cl w9, Calls Tryd.prog 29 #[.slice xa la ca, .agg #[.int .i64 fam, .int .i64 src, .int .i64 scp, .slice xs ls cs]] s.val fun e w'' => e = .returned (.bool r) ∧ ∃ s' : Cl w9, w'' = s'.val) :=
    hid fun s => Calls.cl (in_at (xs := xs) (cs := cs) (ls := ls) r a ⟨fam, src, scp, A⟩ s.val ((ha.below B9.out).below s.hb) ((hs.below B9.out).below s.hb) hla hls hr)
  have Q2 : Hid (∀ s : Cl w9, Calls Tryd.prog 30 #[.slice xa la ca, .agg #[.int .i64 fam, .int .i64 src, .int .i64 scp, .slice xs ls cs]] s.val fun e w'' => e = .returned (.bool r) ∧ ∃ s' : Cl w9, w'' = s'.val) :=
    hid fun s => Calls.cl (inside_at (xs := xs) (cs := cs) (ls := ls) r a ⟨fam, src, scp, A⟩ s.val ((ha.below B9.out).below s.hb) ((hs.below B9.out).below s.hb) hla hls hr)
  have BE : Hid (∀ u, (∃ s : Cl w9, u = s.val) → Below w.heap.size w u) := hid fun u ⟨s, hs'⟩ => by rw [hs']; exact grown_on B9.out s.hb
  have hrr : (r != r) = false := by cases r <;> rfl
  clear hr
  refine wp_region_class (w0 := w9) (by kernel_rfl) (by kernel_rfl) (Below.refl _ _) ?_
  repeat (go_big_quiet_step (first | (go_at_call 29; exact Q1.out _) | (go_at_call 30; exact Q2.out _)))
  refine wpQuiet_nil ?_
  intro w10 hw10
  have B10 := hid (BE.out _ hw10)
  clear hw10 xc0 xc1 xc2 xc3 Q1 Q2 BE B9 K9
  go_wp2_with fail
  have HDG := hid (fun (u : World) (q : Below w.heap.size w u) => dec_good (hb.below q) hlb h1.out)
  refine (sof_good (hb.below B10.out) hlb h1.out).mono ?_
  rintro e w11 ⟨g11, d11, rfl, k11, e11⟩
  have B11 := hid (grown_on B10.out e11)
  have Y11 := hid k11
  clear e11 k11 B10
  generalize snOf b = S at *
  obtain ⟨f1, u1, p1, A1⟩ := S
  simp only at HDG Y11 ⊢
  have X11 := hid (Bl.new 61 w11 #[.int .i64 f1, .int .i64 u1, .int .i64 p1, .slice (some ⟨g11, 0, none⟩) A1.length d11])
  have B12 := hid (B11.out.alloc B11.out.size (.cells #[.int .i64 f1, .int .i64 u1, .int .i64 p1, .slice (some ⟨g11, 0, none⟩) A1.length d11] 61))
  have Y12 := hid (Y11.out.below ((Below.refl _ _).alloc (Nat.le_refl _) (.cells #[.int .i64 f1, .int .i64 u1, .int .i64 p1, .slice (some ⟨g11, 0, none⟩) A1.length d11] 61)))
  go_wp2_with fail
  refine (HDG.out _ B12.out).mono ?_
  rintro e w13 ⟨g13, d13, rfl, k13, e13⟩
  have B13 := hid (grown_on B12.out e13)
  have X13 := hid (X11.out.below e13)
  have Y13 := hid (Y12.out.below e13)
  have Z13 := hid k13
  clear e13 B12 X11 Y11 Y12 k13 HDG
  have A14 := hid ((Below.refl w13.heap.size w13).alloc (Nat.le_refl _) (.cells #[.int .i64 f1, .int .i64 u1, .int .i64 p1, .slice (some ⟨g13, 0, none⟩) A1.length d13] 61))
  have X14 := hid (X13.out.below A14.out)
  have V14 := hid (Bl.new 61 w13 #[.int .i64 f1, .int .i64 u1, .int .i64 p1, .slice (some ⟨g13, 0, none⟩) A1.length d13])
  have B14 := hid (B13.out.alloc B13.out.size (.cells #[.int .i64 f1, .int .i64 u1, .int .i64 p1, .slice (some ⟨g13, 0, none⟩) A1.length d13] 61))
  go_wp2_with fail
  refine (error_at 0 0 _ _ (hg.below B14.out) rfl rfl).mono ?_
  rintro e w15 ⟨rfl, e15⟩
  have B15 := hid (grown_on B14.out e15)
  have X15 := X14.out.below e15
  have V15 := V14.out.below e15
  have Y15 := hid ((Y13.out.below A14.out).below e15)
  have Z15 := hid ((Z13.out.below A14.out).below e15)
  have x0 := X15.cell (i := 0) rfl
  have x1 := X15.cell (i := 1) rfl
  have x2 := X15.cell (i := 2) rfl
  have x3 := X15.cell (i := 3) rfl
  have v0 := V15.cell (i := 0) rfl
  have v1 := V15.cell (i := 1) rfl
  have v2 := V15.cell (i := 2) rfl
  have v3 := V15.cell (i := 3) rfl
  clear e15 X15 V15 X14 V14 X13 Y13 Z13 A14
  go_wp2_with fail
  refine (nets_true f1 u1 p1 A1 w15 Y15.out Z15.out rfl rfl).mono ?_
  rintro e w16 ⟨rfl, e16⟩
  have B16 := hid (grown_on B15.out e16)
  clear e16
  go_wp2_with fail
  go_ret
  exact ⟨rfl, B16.out⟩

set_option maxHeartbeats 4000000 in
set_option maxRecDepth 100000 in
theorem st_lbb {xa xs xb : Option Addr} {ca la cs ls cb lb : Nat} (a : List Int) (n : Int) (fam src scp : Int) (A b : List Int) (w : World) (ha : Bys w xa ca a) (hs : Bys w xs cs A) (hb : Bys w xb cb b) (_hna : xa = none → ca = 0) (hla : a.length = la) (hls : A.length = ls) (hlb : b.length = lb) (hal : a.length ≤ 140737488351232) (hg : Glob w) (hn : ¬ (0 ≤ n ∧ n ≤ 8 * (la : Int))) (hn1 : n < 0) (h0 : Hid (¬ snE ⟨fam, src, scp, A⟩ = 0)) (h1 : Hid (¬ decE b = 0)) :
    Calls Tryd.prog 6 #[.slice xa la ca, .int .i64 n, .agg #[.int .i64 fam, .int .i64 src, .int .i64 scp, .slice xs ls cs], .slice xb lb cb] w fun e w' => e = .returned (.bool true) ∧ Below w.heap.size w w' := by
  have B0 := hid ((Below.refl w.heap.size w).alloc (Nat.le_refl _) (.cells #[.int .i64 fam, .int .i64 src, .int .i64 scp, .slice xs ls cs] 61))
  have K0 := hid (Bl.new 61 w #[.int .i64 fam, .int .i64 src, .int .i64 scp, .slice xs ls cs])
  have U0 := hid ((Below.refl w.heap.size w).alloc (Nat.le_refl _) (.cells #[.int .i64 fam, .int .i64 src, .int .i64 scp, .slice xs ls cs] 61))
  have HN := hid hn
  clear hn
  go_enter Tryd.func6, Tryd.ntmps6
  go_wp2_with fail
  refine (mask_bad n _ (by omega) HN.out).mono ?_
  rintro e w2 ⟨rfl, rfl⟩
  go_wp2_with fail
  refine (error_at 6 6 _ _ (hg.below B0.out) rfl rfl).mono ?_
  rintro e w3 ⟨rfl, e3⟩
  have B3 := hid (grown_on B0.out e3)
  have K3 := hid (K0.out.below e3)
  clear e3 B0 K0 U0
  go_wp2_with fail
  refine (bytes_at true [] [] w3 (Bys.nil _ none 0) (Bys.nil _ none 0) rfl rfl rfl).mono ?_
  rintro e w4 ⟨rfl, e4⟩
  have B4 := hid (grown_on B3.out e4)
  have K4 := K3.out.below e4
  have HK4 := hid K4
  have s0 := K4.cell (i := 0) rfl
  have s1 := K4.cell (i := 1) rfl
  have s2 := K4.cell (i := 2) rfl
  have s3 := K4.cell (i := 3) rfl
  clear e4 K4 B3 K3
  go_wp2_with fail
  refine (sfault_at (x := xs) (c := cs) (l := ls) _ ⟨fam, src, scp, A⟩ w4 hls hs.2.1 rfl).mono ?_
  rintro e w5 ⟨rfl, e5⟩
  have B5 := hid (grown_on B4.out e5)
  have K5 := HK4.out.below e5
  clear s0 s1 s2 s3
  have s0 := K5.cell (i := 0) rfl
  have s1 := K5.cell (i := 1) rfl
  have s2 := K5.cell (i := 2) rfl
  have s3 := K5.cell (i := 3) rfl
  have HK5 := hid K5
  clear e5 K5 B4 HK4
  have hk0 : (snE ⟨fam, src, scp, A⟩ == 0) = false := by rw [beq_eq_false_iff_ne]; exact h0.out
  have HEN := hid (encode_bad (x := xs) (c := cs) (l := ls) ⟨fam, src, scp, A⟩ w5 hls hs.2.1 h0.out)
  obtain ⟨k, hk⟩ : ∃ k, snE ⟨fam, src, scp, A⟩ = k := ⟨_, rfl⟩
  rw [hk] at hk0 HEN ⊢
  clear hk
  go_wp2_with fail
  refine HEN.out.mono ?_
  rintro e w7 ⟨rfl, e7⟩
  have B7 := hid (grown_on B5.out e7)
  have K7 := hid (HK5.out.below e7)
  clear e7 B5 HK5 s0 s1 s2 s3 HEN
  go_wp2_with fail
  refine (error_at k k _ w7 (hg.below B7.out) rfl rfl).mono ?_
  rintro e w8 ⟨rfl, e8⟩
  have B8 := hid (grown_on B7.out e8)
  have K8 := hid (K7.out.below e8)
  clear e8 B7 K7
  go_wp2_with fail
  refine (bytes_at true [] [] w8 (Bys.nil _ none 0) (Bys.nil _ none 0) rfl rfl rfl).mono ?_
  rintro e w9 ⟨rfl, e9⟩
  have B9 := hid (grown_on B8.out e9)
  have K9 := hid (K8.out.below e9)
  clear e9 B8 K8
  go_wp2_with fail
  have xc0 : ∀ s : Cl w9, s.val.cell? ⟨w.heap.size, 0, none⟩ = some (.int .i64 fam) := fun s => (K9.out.below s.hb).cell (i := 0) rfl
  have xc1 : ∀ s : Cl w9, s.val.cell? ⟨w.heap.size, 1, none⟩ = some (.int .i64 src) := fun s => (K9.out.below s.hb).cell (i := 1) rfl
  have xc2 : ∀ s : Cl w9, s.val.cell? ⟨w.heap.size, 2, none⟩ = some (.int .i64 scp) := fun s => (K9.out.below s.hb).cell (i := 2) rfl
  have xc3 : ∀ s : Cl w9, s.val.cell? ⟨w.heap.size, 3, none⟩ = some (.slice xs ls cs) := fun s => (K9.out.below s.hb).cell (i := 3) rfl
  obtain ⟨r, hr⟩ : ∃ r, decide (inN a ⟨fam, src, scp, A⟩) = r := ⟨_, rfl⟩
  have Q1 : Hid (∀ s : Cl w9, Calls Tryd.prog 29 #[.slice xa la ca, .agg #[.int .i64 fam, .int .i64 src, .int .i64 scp, .slice xs ls cs]] s.val fun e w'' => e = .returned (.bool r) ∧ ∃ s' : Cl w9, w'' = s'.val) :=
    hid fun s => Calls.cl (in_at (xs := xs) (cs := cs) (ls := ls) r a ⟨fam, src, scp, A⟩ s.val ((ha.below B9.out).below s.hb) ((hs.below B9.out).below s.hb) hla hls hr)
  have Q2 : Hid (∀ s : Cl w9, Calls Tryd.prog 30 #[.slice xa la ca, .agg #[.int .i64 fam, .int .i64 src, .int .i64 scp, .slice xs ls cs]] s.val fun e w'' => e = .returned (.bool r) ∧ ∃ s' : Cl w9, w'' = s'.val) :=
    hid fun s => Calls.cl (inside_at (xs := xs) (cs := cs) (ls := ls) r a ⟨fam, src, scp, A⟩ s.val ((ha.below B9.out).below s.hb) ((hs.below B9.out).below s.hb) hla hls hr)
  have BE : Hid (∀ u, (∃ s : Cl w9, u = s.val) → Below w.heap.size w u) := hid fun u ⟨s, hs'⟩ => by rw [hs']; exact grown_on B9.out s.hb
  have hrr : (r != r) = false := by cases r <;> rfl
  clear hr
  refine wp_region_class (w0 := w9) (by kernel_rfl) (by kernel_rfl) (Below.refl _ _) ?_
  repeat (go_big_quiet_step (first | (go_at_call 29; exact Q1.out _) | (go_at_call 30; exact Q2.out _)))
  refine wpQuiet_nil ?_
  intro w10 hw10
  have B10 := hid (BE.out _ hw10)
  clear hw10 xc0 xc1 xc2 xc3 Q1 Q2 BE B9 K9
  go_wp2_with fail
  refine (sof_bad (hb.below B10.out) hlb h1.out).mono ?_
  rintro e w11 ⟨rfl, e11⟩
  have B11 := hid (grown_on B10.out e11)
  clear e11 B10
  have X11 := hid (Bl.new 61 w11 #[.int .i64 0, .int .i64 0, .int .i64 0, .slice none 0 0])
  have B12 := hid (B11.out.alloc B11.out.size (.cells #[.int .i64 0, .int .i64 0, .int .i64 0, .slice none 0 0] 61))
  go_wp2_with fail
  refine (dec_bad (hb.below B12.out) hlb h1.out).mono ?_
  rintro e w13 ⟨rfl, e13⟩
  have B13 := hid (grown_on B12.out e13)
  have X13 := hid (X11.out.below e13)
  clear e13 B12 X11
  obtain ⟨k3, hk3⟩ : ∃ k3, decE b = k3 := ⟨_, rfl⟩
  rw [hk3]
  clear hk3
  have X14 := hid (X13.out.below ((Below.refl _ _).alloc (Nat.le_refl _) (.cells #[.int .i64 0, .int .i64 0, .int .i64 0, .slice none 0 0] 61)))
  have V14 := hid (Bl.new 61 w13 #[.int .i64 0, .int .i64 0, .int .i64 0, .slice none 0 0])
  have B14 := hid (B13.out.alloc B13.out.size (.cells #[.int .i64 0, .int .i64 0, .int .i64 0, .slice none 0 0] 61))
  go_wp2_with fail
  refine (error_at k3 k3 _ _ (hg.below B14.out) rfl rfl).mono ?_
  rintro e w15 ⟨rfl, e15⟩
  have B15 := hid (grown_on B14.out e15)
  have X15 := X14.out.below e15
  have V15 := V14.out.below e15
  have x0 := X15.cell (i := 0) rfl
  have x1 := X15.cell (i := 1) rfl
  have x2 := X15.cell (i := 2) rfl
  have x3 := X15.cell (i := 3) rfl
  have v0 := V15.cell (i := 0) rfl
  have v1 := V15.cell (i := 1) rfl
  have v2 := V15.cell (i := 2) rfl
  have v3 := V15.cell (i := 3) rfl
  clear e15 X15 V15 X14 V14 X13
  go_wp2_with fail
  refine (nets_true 0 0 0 [] w15 (Bys.nil _ none 0) (Bys.nil _ none 0) rfl rfl).mono ?_
  rintro e w16 ⟨rfl, e16⟩
  have B16 := hid (grown_on B15.out e16)
  clear e16
  go_wp2_with fail
  go_ret
  exact ⟨rfl, B16.out⟩

set_option maxHeartbeats 4000000 in
set_option maxRecDepth 100000 in
theorem st_mgg {xa xs xb : Option Addr} {ca la cs ls cb lb : Nat} (a : List Int) (n : Int) (fam src scp : Int) (A b : List Int) (w : World) (ha : Bys w xa ca a) (hs : Bys w xs cs A) (hb : Bys w xb cb b) (_hna : xa = none → ca = 0) (hla : a.length = la) (hls : A.length = ls) (hlb : b.length = lb) (hal : a.length ≤ 140737488351232) (hg : Glob w) (hn : ¬ (0 ≤ n ∧ n ≤ 8 * (la : Int))) (hn1 : ¬ n < 0) (hn2 : 8 * (la : Int) < n) (h0 : Hid (snE ⟨fam, src, scp, A⟩ = 0)) (h1 : Hid (decE b = 0)) :
    Calls Tryd.prog 6 #[.slice xa la ca, .int .i64 n, .agg #[.int .i64 fam, .int .i64 src, .int .i64 scp, .slice xs ls cs], .slice xb lb cb] w fun e w' => e = .returned (.bool true) ∧ Below w.heap.size w w' := by
  have B0 := hid ((Below.refl w.heap.size w).alloc (Nat.le_refl _) (.cells #[.int .i64 fam, .int .i64 src, .int .i64 scp, .slice xs ls cs] 61))
  have K0 := hid (Bl.new 61 w #[.int .i64 fam, .int .i64 src, .int .i64 scp, .slice xs ls cs])
  have U0 := hid ((Below.refl w.heap.size w).alloc (Nat.le_refl _) (.cells #[.int .i64 fam, .int .i64 src, .int .i64 scp, .slice xs ls cs] 61))
  have HN := hid hn
  clear hn
  go_enter Tryd.func6, Tryd.ntmps6
  go_wp2_with fail
  refine (mask_bad n _ (by omega) HN.out).mono ?_
  rintro e w2 ⟨rfl, rfl⟩
  go_wp2_with fail
  refine (error_at 6 6 _ _ (hg.below B0.out) rfl rfl).mono ?_
  rintro e w3 ⟨rfl, e3⟩
  have B3 := hid (grown_on B0.out e3)
  have K3 := hid (K0.out.below e3)
  clear e3 B0 K0 U0
  go_wp2_with fail
  refine (bytes_at true [] [] w3 (Bys.nil _ none 0) (Bys.nil _ none 0) rfl rfl rfl).mono ?_
  rintro e w4 ⟨rfl, e4⟩
  have B4 := hid (grown_on B3.out e4)
  have K4 := K3.out.below e4
  have HK4 := hid K4
  have s0 := K4.cell (i := 0) rfl
  have s1 := K4.cell (i := 1) rfl
  have s2 := K4.cell (i := 2) rfl
  have s3 := K4.cell (i := 3) rfl
  clear e4 K4 B3 K3
  go_wp2_with fail
  refine (sfault_at (x := xs) (c := cs) (l := ls) _ ⟨fam, src, scp, A⟩ w4 hls hs.2.1 rfl).mono ?_
  rintro e w5 ⟨rfl, e5⟩
  have B5 := hid (grown_on B4.out e5)
  have K5 := HK4.out.below e5
  clear s0 s1 s2 s3
  have s0 := K5.cell (i := 0) rfl
  have s1 := K5.cell (i := 1) rfl
  have s2 := K5.cell (i := 2) rfl
  have s3 := K5.cell (i := 3) rfl
  have HK5 := hid K5
  clear e5 K5 B4 HK4
  rw [h0.out]
  go_wp2_with fail
  refine (sbytes_any (x := xs) (c := cs) (l := ls) ⟨fam, src, scp, A⟩ w5 (hs.below B5.out) hls h0.out).mono ?_
  rintro e w6 ⟨b6, o6, c6, rfl, k6, _, e6⟩
  have B6 := hid (grown_on B5.out e6)
  have K6 := HK5.out.below e6
  have Y6 := hid k6
  clear s0 s1 s2 s3
  have s0 := K6.cell (i := 0) rfl
  have s1 := K6.cell (i := 1) rfl
  have s2 := K6.cell (i := 2) rfl
  have s3 := K6.cell (i := 3) rfl
  have HK6 := hid K6
  clear e6 K6 B5 HK5 k6
  go_wp2_with fail
  refine (encode_good (x := xs) (c := cs) (l := ls) ⟨fam, src, scp, A⟩ w6 (hs.below B6.out) hls h0.out).mono ?_
  rintro e w7 ⟨b7, o7, c7, rfl, k7, _, e7⟩
  have B7 := hid (grown_on B6.out e7)
  have K7 := hid (HK6.out.below e7)
  have Y7 := hid (Y6.out.below e7)
  have Z7 := hid k7
  clear e7 B6 HK6 k7 Y6 s0 s1 s2 s3
  go_wp2_with fail
  refine (error_at 0 0 _ w7 (hg.below B7.out) rfl rfl).mono ?_
  rintro e w8 ⟨rfl, e8⟩
  have B8 := hid (grown_on B7.out e8)
  have K8 := hid (K7.out.below e8)
  have Y8 := hid (Y7.out.below e8)
  have Z8 := hid (Z7.out.below e8)
  clear e8 B7 K7 Y7 Z7
  go_wp2_with fail
  refine (bytes_at true _ _ w8 Z8.out Y8.out rfl rfl (by simp)).mono ?_
  rintro e w9 ⟨rfl, e9⟩
  have B9 := hid (grown_on B8.out e9)
  have K9 := hid (K8.out.below e9)
  clear e9 B8 K8 Y8 Z8
  go_wp2_with fail
  have xc0 : ∀ s : Cl w9, s.val.cell? ⟨w.heap.size, 0, none⟩ = some (.int .i64 fam) := fun s => (K9.out.below s.hb).cell (i := 0) rfl
  have xc1 : ∀ s : Cl w9, s.val.cell? ⟨w.heap.size, 1, none⟩ = some (.int .i64 src) := fun s => (K9.out.below s.hb).cell (i := 1) rfl
  have xc2 : ∀ s : Cl w9, s.val.cell? ⟨w.heap.size, 2, none⟩ = some (.int .i64 scp) := fun s => (K9.out.below s.hb).cell (i := 2) rfl
  have xc3 : ∀ s : Cl w9, s.val.cell? ⟨w.heap.size, 3, none⟩ = some (.slice xs ls cs) := fun s => (K9.out.below s.hb).cell (i := 3) rfl
  obtain ⟨r, hr⟩ : ∃ r, decide (inN a ⟨fam, src, scp, A⟩) = r := ⟨_, rfl⟩
  have Q1 : Hid (∀ s : Cl w9, Calls Tryd.prog 29 #[.slice xa la ca, .agg #[.int .i64 fam, .int .i64 src, .int .i64 scp, .slice xs ls cs]] s.val fun e w'' => e = .returned (.bool r) ∧ ∃ s' : Cl w9, w'' = s'.val) :=
    hid fun s => Calls.cl (in_at (xs := xs) (cs := cs) (ls := ls) r a ⟨fam, src, scp, A⟩ s.val ((ha.below B9.out).below s.hb) ((hs.below B9.out).below s.hb) hla hls hr)
  have Q2 : Hid (∀ s : Cl w9, Calls Tryd.prog 30 #[.slice xa la ca, .agg #[.int .i64 fam, .int .i64 src, .int .i64 scp, .slice xs ls cs]] s.val fun e w'' => e = .returned (.bool r) ∧ ∃ s' : Cl w9, w'' = s'.val) :=
    hid fun s => Calls.cl (inside_at (xs := xs) (cs := cs) (ls := ls) r a ⟨fam, src, scp, A⟩ s.val ((ha.below B9.out).below s.hb) ((hs.below B9.out).below s.hb) hla hls hr)
  have BE : Hid (∀ u, (∃ s : Cl w9, u = s.val) → Below w.heap.size w u) := hid fun u ⟨s, hs'⟩ => by rw [hs']; exact grown_on B9.out s.hb
  have hrr : (r != r) = false := by cases r <;> rfl
  clear hr
  refine wp_region_class (w0 := w9) (by kernel_rfl) (by kernel_rfl) (Below.refl _ _) ?_
  repeat (go_big_quiet_step (first | (go_at_call 29; exact Q1.out _) | (go_at_call 30; exact Q2.out _)))
  refine wpQuiet_nil ?_
  intro w10 hw10
  have B10 := hid (BE.out _ hw10)
  clear hw10 xc0 xc1 xc2 xc3 Q1 Q2 BE B9 K9
  go_wp2_with fail
  have HDG := hid (fun (u : World) (q : Below w.heap.size w u) => dec_good (hb.below q) hlb h1.out)
  refine (sof_good (hb.below B10.out) hlb h1.out).mono ?_
  rintro e w11 ⟨g11, d11, rfl, k11, e11⟩
  have B11 := hid (grown_on B10.out e11)
  have Y11 := hid k11
  clear e11 k11 B10
  generalize snOf b = S at *
  obtain ⟨f1, u1, p1, A1⟩ := S
  simp only at HDG Y11 ⊢
  have X11 := hid (Bl.new 61 w11 #[.int .i64 f1, .int .i64 u1, .int .i64 p1, .slice (some ⟨g11, 0, none⟩) A1.length d11])
  have B12 := hid (B11.out.alloc B11.out.size (.cells #[.int .i64 f1, .int .i64 u1, .int .i64 p1, .slice (some ⟨g11, 0, none⟩) A1.length d11] 61))
  have Y12 := hid (Y11.out.below ((Below.refl _ _).alloc (Nat.le_refl _) (.cells #[.int .i64 f1, .int .i64 u1, .int .i64 p1, .slice (some ⟨g11, 0, none⟩) A1.length d11] 61)))
  go_wp2_with fail
  refine (HDG.out _ B12.out).mono ?_
  rintro e w13 ⟨g13, d13, rfl, k13, e13⟩
  have B13 := hid (grown_on B12.out e13)
  have X13 := hid (X11.out.below e13)
  have Y13 := hid (Y12.out.below e13)
  have Z13 := hid k13
  clear e13 B12 X11 Y11 Y12 k13 HDG
  have A14 := hid ((Below.refl w13.heap.size w13).alloc (Nat.le_refl _) (.cells #[.int .i64 f1, .int .i64 u1, .int .i64 p1, .slice (some ⟨g13, 0, none⟩) A1.length d13] 61))
  have X14 := hid (X13.out.below A14.out)
  have V14 := hid (Bl.new 61 w13 #[.int .i64 f1, .int .i64 u1, .int .i64 p1, .slice (some ⟨g13, 0, none⟩) A1.length d13])
  have B14 := hid (B13.out.alloc B13.out.size (.cells #[.int .i64 f1, .int .i64 u1, .int .i64 p1, .slice (some ⟨g13, 0, none⟩) A1.length d13] 61))
  go_wp2_with fail
  refine (error_at 0 0 _ _ (hg.below B14.out) rfl rfl).mono ?_
  rintro e w15 ⟨rfl, e15⟩
  have B15 := hid (grown_on B14.out e15)
  have X15 := X14.out.below e15
  have V15 := V14.out.below e15
  have Y15 := hid ((Y13.out.below A14.out).below e15)
  have Z15 := hid ((Z13.out.below A14.out).below e15)
  have x0 := X15.cell (i := 0) rfl
  have x1 := X15.cell (i := 1) rfl
  have x2 := X15.cell (i := 2) rfl
  have x3 := X15.cell (i := 3) rfl
  have v0 := V15.cell (i := 0) rfl
  have v1 := V15.cell (i := 1) rfl
  have v2 := V15.cell (i := 2) rfl
  have v3 := V15.cell (i := 3) rfl
  clear e15 X15 V15 X14 V14 X13 Y13 Z13 A14
  go_wp2_with fail
  refine (nets_true f1 u1 p1 A1 w15 Y15.out Z15.out rfl rfl).mono ?_
  rintro e w16 ⟨rfl, e16⟩
  have B16 := hid (grown_on B15.out e16)
  clear e16
  go_wp2_with fail
  go_ret
  exact ⟨rfl, B16.out⟩

set_option maxHeartbeats 4000000 in
set_option maxRecDepth 100000 in
theorem st_mgb {xa xs xb : Option Addr} {ca la cs ls cb lb : Nat} (a : List Int) (n : Int) (fam src scp : Int) (A b : List Int) (w : World) (ha : Bys w xa ca a) (hs : Bys w xs cs A) (hb : Bys w xb cb b) (_hna : xa = none → ca = 0) (hla : a.length = la) (hls : A.length = ls) (hlb : b.length = lb) (hal : a.length ≤ 140737488351232) (hg : Glob w) (hn : ¬ (0 ≤ n ∧ n ≤ 8 * (la : Int))) (hn1 : ¬ n < 0) (hn2 : 8 * (la : Int) < n) (h0 : Hid (snE ⟨fam, src, scp, A⟩ = 0)) (h1 : Hid (¬ decE b = 0)) :
    Calls Tryd.prog 6 #[.slice xa la ca, .int .i64 n, .agg #[.int .i64 fam, .int .i64 src, .int .i64 scp, .slice xs ls cs], .slice xb lb cb] w fun e w' => e = .returned (.bool true) ∧ Below w.heap.size w w' := by
  have B0 := hid ((Below.refl w.heap.size w).alloc (Nat.le_refl _) (.cells #[.int .i64 fam, .int .i64 src, .int .i64 scp, .slice xs ls cs] 61))
  have K0 := hid (Bl.new 61 w #[.int .i64 fam, .int .i64 src, .int .i64 scp, .slice xs ls cs])
  have U0 := hid ((Below.refl w.heap.size w).alloc (Nat.le_refl _) (.cells #[.int .i64 fam, .int .i64 src, .int .i64 scp, .slice xs ls cs] 61))
  have HN := hid hn
  clear hn
  go_enter Tryd.func6, Tryd.ntmps6
  go_wp2_with fail
  refine (mask_bad n _ (by omega) HN.out).mono ?_
  rintro e w2 ⟨rfl, rfl⟩
  go_wp2_with fail
  refine (error_at 6 6 _ _ (hg.below B0.out) rfl rfl).mono ?_
  rintro e w3 ⟨rfl, e3⟩
  have B3 := hid (grown_on B0.out e3)
  have K3 := hid (K0.out.below e3)
  clear e3 B0 K0 U0
  go_wp2_with fail
  refine (bytes_at true [] [] w3 (Bys.nil _ none 0) (Bys.nil _ none 0) rfl rfl rfl).mono ?_
  rintro e w4 ⟨rfl, e4⟩
  have B4 := hid (grown_on B3.out e4)
  have K4 := K3.out.below e4
  have HK4 := hid K4
  have s0 := K4.cell (i := 0) rfl
  have s1 := K4.cell (i := 1) rfl
  have s2 := K4.cell (i := 2) rfl
  have s3 := K4.cell (i := 3) rfl
  clear e4 K4 B3 K3
  go_wp2_with fail
  refine (sfault_at (x := xs) (c := cs) (l := ls) _ ⟨fam, src, scp, A⟩ w4 hls hs.2.1 rfl).mono ?_
  rintro e w5 ⟨rfl, e5⟩
  have B5 := hid (grown_on B4.out e5)
  have K5 := HK4.out.below e5
  clear s0 s1 s2 s3
  have s0 := K5.cell (i := 0) rfl
  have s1 := K5.cell (i := 1) rfl
  have s2 := K5.cell (i := 2) rfl
  have s3 := K5.cell (i := 3) rfl
  have HK5 := hid K5
  clear e5 K5 B4 HK4
  rw [h0.out]
  go_wp2_with fail
  refine (sbytes_any (x := xs) (c := cs) (l := ls) ⟨fam, src, scp, A⟩ w5 (hs.below B5.out) hls h0.out).mono ?_
  rintro e w6 ⟨b6, o6, c6, rfl, k6, _, e6⟩
  have B6 := hid (grown_on B5.out e6)
  have K6 := HK5.out.below e6
  have Y6 := hid k6
  clear s0 s1 s2 s3
  have s0 := K6.cell (i := 0) rfl
  have s1 := K6.cell (i := 1) rfl
  have s2 := K6.cell (i := 2) rfl
  have s3 := K6.cell (i := 3) rfl
  have HK6 := hid K6
  clear e6 K6 B5 HK5 k6
  go_wp2_with fail
  refine (encode_good (x := xs) (c := cs) (l := ls) ⟨fam, src, scp, A⟩ w6 (hs.below B6.out) hls h0.out).mono ?_
  rintro e w7 ⟨b7, o7, c7, rfl, k7, _, e7⟩
  have B7 := hid (grown_on B6.out e7)
  have K7 := hid (HK6.out.below e7)
  have Y7 := hid (Y6.out.below e7)
  have Z7 := hid k7
  clear e7 B6 HK6 k7 Y6 s0 s1 s2 s3
  go_wp2_with fail
  refine (error_at 0 0 _ w7 (hg.below B7.out) rfl rfl).mono ?_
  rintro e w8 ⟨rfl, e8⟩
  have B8 := hid (grown_on B7.out e8)
  have K8 := hid (K7.out.below e8)
  have Y8 := hid (Y7.out.below e8)
  have Z8 := hid (Z7.out.below e8)
  clear e8 B7 K7 Y7 Z7
  go_wp2_with fail
  refine (bytes_at true _ _ w8 Z8.out Y8.out rfl rfl (by simp)).mono ?_
  rintro e w9 ⟨rfl, e9⟩
  have B9 := hid (grown_on B8.out e9)
  have K9 := hid (K8.out.below e9)
  clear e9 B8 K8 Y8 Z8
  go_wp2_with fail
  have xc0 : ∀ s : Cl w9, s.val.cell? ⟨w.heap.size, 0, none⟩ = some (.int .i64 fam) := fun s => (K9.out.below s.hb).cell (i := 0) rfl
  have xc1 : ∀ s : Cl w9, s.val.cell? ⟨w.heap.size, 1, none⟩ = some (.int .i64 src) := fun s => (K9.out.below s.hb).cell (i := 1) rfl
  have xc2 : ∀ s : Cl w9, s.val.cell? ⟨w.heap.size, 2, none⟩ = some (.int .i64 scp) := fun s => (K9.out.below s.hb).cell (i := 2) rfl
  have xc3 : ∀ s : Cl w9, s.val.cell? ⟨w.heap.size, 3, none⟩ = some (.slice xs ls cs) := fun s => (K9.out.below s.hb).cell (i := 3) rfl
  obtain ⟨r, hr⟩ : ∃ r, decide (inN a ⟨fam, src, scp, A⟩) = r := ⟨_, rfl⟩
  have Q1 : Hid (∀ s : Cl w9, Calls Tryd.prog 29 #[.slice xa la ca, .agg #[.int .i64 fam, .int .i64 src, .int .i64 scp, .slice xs ls cs]] s.val fun e w'' => e = .returned (.bool r) ∧ ∃ s' : Cl w9, w'' = s'.val) :=
    hid fun s => Calls.cl (in_at (xs := xs) (cs := cs) (ls := ls) r a ⟨fam, src, scp, A⟩ s.val ((ha.below B9.out).below s.hb) ((hs.below B9.out).below s.hb) hla hls hr)
  have Q2 : Hid (∀ s : Cl w9, Calls Tryd.prog 30 #[.slice xa la ca, .agg #[.int .i64 fam, .int .i64 src, .int .i64 scp, .slice xs ls cs]] s.val fun e w'' => e = .returned (.bool r) ∧ ∃ s' : Cl w9, w'' = s'.val) :=
    hid fun s => Calls.cl (inside_at (xs := xs) (cs := cs) (ls := ls) r a ⟨fam, src, scp, A⟩ s.val ((ha.below B9.out).below s.hb) ((hs.below B9.out).below s.hb) hla hls hr)
  have BE : Hid (∀ u, (∃ s : Cl w9, u = s.val) → Below w.heap.size w u) := hid fun u ⟨s, hs'⟩ => by rw [hs']; exact grown_on B9.out s.hb
  have hrr : (r != r) = false := by cases r <;> rfl
  clear hr
  refine wp_region_class (w0 := w9) (by kernel_rfl) (by kernel_rfl) (Below.refl _ _) ?_
  repeat (go_big_quiet_step (first | (go_at_call 29; exact Q1.out _) | (go_at_call 30; exact Q2.out _)))
  refine wpQuiet_nil ?_
  intro w10 hw10
  have B10 := hid (BE.out _ hw10)
  clear hw10 xc0 xc1 xc2 xc3 Q1 Q2 BE B9 K9
  go_wp2_with fail
  refine (sof_bad (hb.below B10.out) hlb h1.out).mono ?_
  rintro e w11 ⟨rfl, e11⟩
  have B11 := hid (grown_on B10.out e11)
  clear e11 B10
  have X11 := hid (Bl.new 61 w11 #[.int .i64 0, .int .i64 0, .int .i64 0, .slice none 0 0])
  have B12 := hid (B11.out.alloc B11.out.size (.cells #[.int .i64 0, .int .i64 0, .int .i64 0, .slice none 0 0] 61))
  go_wp2_with fail
  refine (dec_bad (hb.below B12.out) hlb h1.out).mono ?_
  rintro e w13 ⟨rfl, e13⟩
  have B13 := hid (grown_on B12.out e13)
  have X13 := hid (X11.out.below e13)
  clear e13 B12 X11
  obtain ⟨k3, hk3⟩ : ∃ k3, decE b = k3 := ⟨_, rfl⟩
  rw [hk3]
  clear hk3
  have X14 := hid (X13.out.below ((Below.refl _ _).alloc (Nat.le_refl _) (.cells #[.int .i64 0, .int .i64 0, .int .i64 0, .slice none 0 0] 61)))
  have V14 := hid (Bl.new 61 w13 #[.int .i64 0, .int .i64 0, .int .i64 0, .slice none 0 0])
  have B14 := hid (B13.out.alloc B13.out.size (.cells #[.int .i64 0, .int .i64 0, .int .i64 0, .slice none 0 0] 61))
  go_wp2_with fail
  refine (error_at k3 k3 _ _ (hg.below B14.out) rfl rfl).mono ?_
  rintro e w15 ⟨rfl, e15⟩
  have B15 := hid (grown_on B14.out e15)
  have X15 := X14.out.below e15
  have V15 := V14.out.below e15
  have x0 := X15.cell (i := 0) rfl
  have x1 := X15.cell (i := 1) rfl
  have x2 := X15.cell (i := 2) rfl
  have x3 := X15.cell (i := 3) rfl
  have v0 := V15.cell (i := 0) rfl
  have v1 := V15.cell (i := 1) rfl
  have v2 := V15.cell (i := 2) rfl
  have v3 := V15.cell (i := 3) rfl
  clear e15 X15 V15 X14 V14 X13
  go_wp2_with fail
  refine (nets_true 0 0 0 [] w15 (Bys.nil _ none 0) (Bys.nil _ none 0) rfl rfl).mono ?_
  rintro e w16 ⟨rfl, e16⟩
  have B16 := hid (grown_on B15.out e16)
  clear e16
  go_wp2_with fail
  go_ret
  exact ⟨rfl, B16.out⟩

set_option maxHeartbeats 4000000 in
set_option maxRecDepth 100000 in
theorem st_mbg {xa xs xb : Option Addr} {ca la cs ls cb lb : Nat} (a : List Int) (n : Int) (fam src scp : Int) (A b : List Int) (w : World) (ha : Bys w xa ca a) (hs : Bys w xs cs A) (hb : Bys w xb cb b) (_hna : xa = none → ca = 0) (hla : a.length = la) (hls : A.length = ls) (hlb : b.length = lb) (hal : a.length ≤ 140737488351232) (hg : Glob w) (hn : ¬ (0 ≤ n ∧ n ≤ 8 * (la : Int))) (hn1 : ¬ n < 0) (hn2 : 8 * (la : Int) < n) (h0 : Hid (¬ snE ⟨fam, src, scp, A⟩ = 0)) (h1 : Hid (decE b = 0)) :
    Calls Tryd.prog 6 #[.slice xa la ca, .int .i64 n, .agg #[.int .i64 fam, .int .i64 src, .int .i64 scp, .slice xs ls cs], .slice xb lb cb] w fun e w' => e = .returned (.bool true) ∧ Below w.heap.size w w' := by
  have B0 := hid ((Below.refl w.heap.size w).alloc (Nat.le_refl _) (.cells #[.int .i64 fam, .int .i64 src, .int .i64 scp, .slice xs ls cs] 61))
  have K0 := hid (Bl.new 61 w #[.int .i64 fam, .int .i64 src, .int .i64 scp, .slice xs ls cs])
  have U0 := hid ((Below.refl w.heap.size w).alloc (Nat.le_refl _) (.cells #[.int .i64 fam, .int .i64 src, .int .i64 scp, .slice xs ls cs] 61))
  have HN := hid hn
  clear hn
  go_enter Tryd.func6, Tryd.ntmps6
  go_wp2_with fail
  refine (mask_bad n _ (by omega) HN.out).mono ?_
  rintro e w2 ⟨rfl, rfl⟩
  go_wp2_with fail
  refine (error_at 6 6 _ _ (hg.below B0.out) rfl rfl).mono ?_
  rintro e w3 ⟨rfl, e3⟩
  have B3 := hid (grown_on B0.out e3)
  have K3 := hid (K0.out.below e3)
  clear e3 B0 K0 U0
  go_wp2_with fail
  refine (bytes_at true [] [] w3 (Bys.nil _ none 0) (Bys.nil _ none 0) rfl rfl rfl).mono ?_
  rintro e w4 ⟨rfl, e4⟩
  have B4 := hid (grown_on B3.out e4)
  have K4 := K3.out.below e4
  have HK4 := hid K4
  have s0 := K4.cell (i := 0) rfl
  have s1 := K4.cell (i := 1) rfl
  have s2 := K4.cell (i := 2) rfl
  have s3 := K4.cell (i := 3) rfl
  clear e4 K4 B3 K3
  go_wp2_with fail
  refine (sfault_at (x := xs) (c := cs) (l := ls) _ ⟨fam, src, scp, A⟩ w4 hls hs.2.1 rfl).mono ?_
  rintro e w5 ⟨rfl, e5⟩
  have B5 := hid (grown_on B4.out e5)
  have K5 := HK4.out.below e5
  clear s0 s1 s2 s3
  have s0 := K5.cell (i := 0) rfl
  have s1 := K5.cell (i := 1) rfl
  have s2 := K5.cell (i := 2) rfl
  have s3 := K5.cell (i := 3) rfl
  have HK5 := hid K5
  clear e5 K5 B4 HK4
  have hk0 : (snE ⟨fam, src, scp, A⟩ == 0) = false := by rw [beq_eq_false_iff_ne]; exact h0.out
  have HEN := hid (encode_bad (x := xs) (c := cs) (l := ls) ⟨fam, src, scp, A⟩ w5 hls hs.2.1 h0.out)
  obtain ⟨k, hk⟩ : ∃ k, snE ⟨fam, src, scp, A⟩ = k := ⟨_, rfl⟩
  rw [hk] at hk0 HEN ⊢
  clear hk
  go_wp2_with fail
  refine HEN.out.mono ?_
  rintro e w7 ⟨rfl, e7⟩
  have B7 := hid (grown_on B5.out e7)
  have K7 := hid (HK5.out.below e7)
  clear e7 B5 HK5 s0 s1 s2 s3 HEN
  go_wp2_with fail
  refine (error_at k k _ w7 (hg.below B7.out) rfl rfl).mono ?_
  rintro e w8 ⟨rfl, e8⟩
  have B8 := hid (grown_on B7.out e8)
  have K8 := hid (K7.out.below e8)
  clear e8 B7 K7
  go_wp2_with fail
  refine (bytes_at true [] [] w8 (Bys.nil _ none 0) (Bys.nil _ none 0) rfl rfl rfl).mono ?_
  rintro e w9 ⟨rfl, e9⟩
  have B9 := hid (grown_on B8.out e9)
  have K9 := hid (K8.out.below e9)
  clear e9 B8 K8
  go_wp2_with fail
  have xc0 : ∀ s : Cl w9, s.val.cell? ⟨w.heap.size, 0, none⟩ = some (.int .i64 fam) := fun s => (K9.out.below s.hb).cell (i := 0) rfl
  have xc1 : ∀ s : Cl w9, s.val.cell? ⟨w.heap.size, 1, none⟩ = some (.int .i64 src) := fun s => (K9.out.below s.hb).cell (i := 1) rfl
  have xc2 : ∀ s : Cl w9, s.val.cell? ⟨w.heap.size, 2, none⟩ = some (.int .i64 scp) := fun s => (K9.out.below s.hb).cell (i := 2) rfl
  have xc3 : ∀ s : Cl w9, s.val.cell? ⟨w.heap.size, 3, none⟩ = some (.slice xs ls cs) := fun s => (K9.out.below s.hb).cell (i := 3) rfl
  obtain ⟨r, hr⟩ : ∃ r, decide (inN a ⟨fam, src, scp, A⟩) = r := ⟨_, rfl⟩
  have Q1 : Hid (∀ s : Cl w9, Calls Tryd.prog 29 #[.slice xa la ca, .agg #[.int .i64 fam, .int .i64 src, .int .i64 scp, .slice xs ls cs]] s.val fun e w'' => e = .returned (.bool r) ∧ ∃ s' : Cl w9, w'' = s'.val) :=
    hid fun s => Calls.cl (in_at (xs := xs) (cs := cs) (ls := ls) r a ⟨fam, src, scp, A⟩ s.val ((ha.below B9.out).below s.hb) ((hs.below B9.out).below s.hb) hla hls hr)
  have Q2 : Hid (∀ s : Cl w9, Calls Tryd.prog 30 #[.slice xa la ca, .agg #[.int .i64 fam, .int .i64 src, .int .i64 scp, .slice xs ls cs]] s.val fun e w'' => e = .returned (.bool r) ∧ ∃ s' : Cl w9, w'' = s'.val) :=
    hid fun s => Calls.cl (inside_at (xs := xs) (cs := cs) (ls := ls) r a ⟨fam, src, scp, A⟩ s.val ((ha.below B9.out).below s.hb) ((hs.below B9.out).below s.hb) hla hls hr)
  have BE : Hid (∀ u, (∃ s : Cl w9, u = s.val) → Below w.heap.size w u) := hid fun u ⟨s, hs'⟩ => by rw [hs']; exact grown_on B9.out s.hb
  have hrr : (r != r) = false := by cases r <;> rfl
  clear hr
  refine wp_region_class (w0 := w9) (by kernel_rfl) (by kernel_rfl) (Below.refl _ _) ?_
  repeat (go_big_quiet_step (first | (go_at_call 29; exact Q1.out _) | (go_at_call 30; exact Q2.out _)))
  refine wpQuiet_nil ?_
  intro w10 hw10
  have B10 := hid (BE.out _ hw10)
  clear hw10 xc0 xc1 xc2 xc3 Q1 Q2 BE B9 K9
  go_wp2_with fail
  have HDG := hid (fun (u : World) (q : Below w.heap.size w u) => dec_good (hb.below q) hlb h1.out)
  refine (sof_good (hb.below B10.out) hlb h1.out).mono ?_
  rintro e w11 ⟨g11, d11, rfl, k11, e11⟩
  have B11 := hid (grown_on B10.out e11)
  have Y11 := hid k11
  clear e11 k11 B10
  generalize snOf b = S at *
  obtain ⟨f1, u1, p1, A1⟩ := S
  simp only at HDG Y11 ⊢
  have X11 := hid (Bl.new 61 w11 #[.int .i64 f1, .int .i64 u1, .int .i64 p1, .slice (some ⟨g11, 0, none⟩) A1.length d11])
  have B12 := hid (B11.out.alloc B11.out.size (.cells #[.int .i64 f1, .int .i64 u1, .int .i64 p1, .slice (some ⟨g11, 0, none⟩) A1.length d11] 61))
  have Y12 := hid (Y11.out.below ((Below.refl _ _).alloc (Nat.le_refl _) (.cells #[.int .i64 f1, .int .i64 u1, .int .i64 p1, .slice (some ⟨g11, 0, none⟩) A1.length d11] 61)))
  go_wp2_with fail
  refine (HDG.out _ B12.out).mono ?_
  rintro e w13 ⟨g13, d13, rfl, k13, e13⟩
  have B13 := hid (grown_on B12.out e13)
  have X13 := hid (X11.out.below e13)
  have Y13 := hid (Y12.out.below e13)
  have Z13 := hid k13
  clear e13 B12 X11 Y11 Y12 k13 HDG
  have A14 := hid ((Below.refl w13.heap.size w13).alloc (Nat.le_refl _) (.cells #[.int .i64 f1, .int .i64 u1, .int .i64 p1, .slice (some ⟨g13, 0, none⟩) A1.length d13] 61))
  have X14 := hid (X13.out.below A14.out)
  have V14 := hid (Bl.new 61 w13 #[.int .i64 f1, .int .i64 u1, .int .i64 p1, .slice (some ⟨g13, 0, none⟩) A1.length d13])
  have B14 := hid (B13.out.alloc B13.out.size (.cells #[.int .i64 f1, .int .i64 u1, .int .i64 p1, .slice (some ⟨g13, 0, none⟩) A1.length d13] 61))
  go_wp2_with fail
  refine (error_at 0 0 _ _ (hg.below B14.out) rfl rfl).mono ?_
  rintro e w15 ⟨rfl, e15⟩
  have B15 := hid (grown_on B14.out e15)
  have X15 := X14.out.below e15
  have V15 := V14.out.below e15
  have Y15 := hid ((Y13.out.below A14.out).below e15)
  have Z15 := hid ((Z13.out.below A14.out).below e15)
  have x0 := X15.cell (i := 0) rfl
  have x1 := X15.cell (i := 1) rfl
  have x2 := X15.cell (i := 2) rfl
  have x3 := X15.cell (i := 3) rfl
  have v0 := V15.cell (i := 0) rfl
  have v1 := V15.cell (i := 1) rfl
  have v2 := V15.cell (i := 2) rfl
  have v3 := V15.cell (i := 3) rfl
  clear e15 X15 V15 X14 V14 X13 Y13 Z13 A14
  go_wp2_with fail
  refine (nets_true f1 u1 p1 A1 w15 Y15.out Z15.out rfl rfl).mono ?_
  rintro e w16 ⟨rfl, e16⟩
  have B16 := hid (grown_on B15.out e16)
  clear e16
  go_wp2_with fail
  go_ret
  exact ⟨rfl, B16.out⟩

set_option maxHeartbeats 4000000 in
set_option maxRecDepth 100000 in
theorem st_mbb {xa xs xb : Option Addr} {ca la cs ls cb lb : Nat} (a : List Int) (n : Int) (fam src scp : Int) (A b : List Int) (w : World) (ha : Bys w xa ca a) (hs : Bys w xs cs A) (hb : Bys w xb cb b) (_hna : xa = none → ca = 0) (hla : a.length = la) (hls : A.length = ls) (hlb : b.length = lb) (hal : a.length ≤ 140737488351232) (hg : Glob w) (hn : ¬ (0 ≤ n ∧ n ≤ 8 * (la : Int))) (hn1 : ¬ n < 0) (hn2 : 8 * (la : Int) < n) (h0 : Hid (¬ snE ⟨fam, src, scp, A⟩ = 0)) (h1 : Hid (¬ decE b = 0)) :
    Calls Tryd.prog 6 #[.slice xa la ca, .int .i64 n, .agg #[.int .i64 fam, .int .i64 src, .int .i64 scp, .slice xs ls cs], .slice xb lb cb] w fun e w' => e = .returned (.bool true) ∧ Below w.heap.size w w' := by
  have B0 := hid ((Below.refl w.heap.size w).alloc (Nat.le_refl _) (.cells #[.int .i64 fam, .int .i64 src, .int .i64 scp, .slice xs ls cs] 61))
  have K0 := hid (Bl.new 61 w #[.int .i64 fam, .int .i64 src, .int .i64 scp, .slice xs ls cs])
  have U0 := hid ((Below.refl w.heap.size w).alloc (Nat.le_refl _) (.cells #[.int .i64 fam, .int .i64 src, .int .i64 scp, .slice xs ls cs] 61))
  have HN := hid hn
  clear hn
  go_enter Tryd.func6, Tryd.ntmps6
  go_wp2_with fail
  refine (mask_bad n _ (by omega) HN.out).mono ?_
  rintro e w2 ⟨rfl, rfl⟩
  go_wp2_with fail
  refine (error_at 6 6 _ _ (hg.below B0.out) rfl rfl).mono ?_
  rintro e w3 ⟨rfl, e3⟩
  have B3 := hid (grown_on B0.out e3)
  have K3 := hid (K0.out.below e3)
  clear e3 B0 K0 U0
  go_wp2_with fail
  refine (bytes_at true [] [] w3 (Bys.nil _ none 0) (Bys.nil _ none 0) rfl rfl rfl).mono ?_
  rintro e w4 ⟨rfl, e4⟩
  have B4 := hid (grown_on B3.out e4)
  have K4 := K3.out.below e4
  have HK4 := hid K4
  have s0 := K4.cell (i := 0) rfl
  have s1 := K4.cell (i := 1) rfl
  have s2 := K4.cell (i := 2) rfl
  have s3 := K4.cell (i := 3) rfl
  clear e4 K4 B3 K3
  go_wp2_with fail
  refine (sfault_at (x := xs) (c := cs) (l := ls) _ ⟨fam, src, scp, A⟩ w4 hls hs.2.1 rfl).mono ?_
  rintro e w5 ⟨rfl, e5⟩
  have B5 := hid (grown_on B4.out e5)
  have K5 := HK4.out.below e5
  clear s0 s1 s2 s3
  have s0 := K5.cell (i := 0) rfl
  have s1 := K5.cell (i := 1) rfl
  have s2 := K5.cell (i := 2) rfl
  have s3 := K5.cell (i := 3) rfl
  have HK5 := hid K5
  clear e5 K5 B4 HK4
  have hk0 : (snE ⟨fam, src, scp, A⟩ == 0) = false := by rw [beq_eq_false_iff_ne]; exact h0.out
  have HEN := hid (encode_bad (x := xs) (c := cs) (l := ls) ⟨fam, src, scp, A⟩ w5 hls hs.2.1 h0.out)
  obtain ⟨k, hk⟩ : ∃ k, snE ⟨fam, src, scp, A⟩ = k := ⟨_, rfl⟩
  rw [hk] at hk0 HEN ⊢
  clear hk
  go_wp2_with fail
  refine HEN.out.mono ?_
  rintro e w7 ⟨rfl, e7⟩
  have B7 := hid (grown_on B5.out e7)
  have K7 := hid (HK5.out.below e7)
  clear e7 B5 HK5 s0 s1 s2 s3 HEN
  go_wp2_with fail
  refine (error_at k k _ w7 (hg.below B7.out) rfl rfl).mono ?_
  rintro e w8 ⟨rfl, e8⟩
  have B8 := hid (grown_on B7.out e8)
  have K8 := hid (K7.out.below e8)
  clear e8 B7 K7
  go_wp2_with fail
  refine (bytes_at true [] [] w8 (Bys.nil _ none 0) (Bys.nil _ none 0) rfl rfl rfl).mono ?_
  rintro e w9 ⟨rfl, e9⟩
  have B9 := hid (grown_on B8.out e9)
  have K9 := hid (K8.out.below e9)
  clear e9 B8 K8
  go_wp2_with fail
  have xc0 : ∀ s : Cl w9, s.val.cell? ⟨w.heap.size, 0, none⟩ = some (.int .i64 fam) := fun s => (K9.out.below s.hb).cell (i := 0) rfl
  have xc1 : ∀ s : Cl w9, s.val.cell? ⟨w.heap.size, 1, none⟩ = some (.int .i64 src) := fun s => (K9.out.below s.hb).cell (i := 1) rfl
  have xc2 : ∀ s : Cl w9, s.val.cell? ⟨w.heap.size, 2, none⟩ = some (.int .i64 scp) := fun s => (K9.out.below s.hb).cell (i := 2) rfl
  have xc3 : ∀ s : Cl w9, s.val.cell? ⟨w.heap.size, 3, none⟩ = some (.slice xs ls cs) := fun s => (K9.out.below s.hb).cell (i := 3) rfl
  obtain ⟨r, hr⟩ : ∃ r, decide (inN a ⟨fam, src, scp, A⟩) = r := ⟨_, rfl⟩
  have Q1 : Hid (∀ s : Cl w9, Calls Tryd.prog 29 #[.slice xa la ca, .agg #[.int .i64 fam, .int .i64 src, .int .i64 scp, .slice xs ls cs]] s.val fun e w'' => e = .returned (.bool r) ∧ ∃ s' : Cl w9, w'' = s'.val) :=
    hid fun s => Calls.cl (in_at (xs := xs) (cs := cs) (ls := ls) r a ⟨fam, src, scp, A⟩ s.val ((ha.below B9.out).below s.hb) ((hs.below B9.out).below s.hb) hla hls hr)
  have Q2 : Hid (∀ s : Cl w9, Calls Tryd.prog 30 #[.slice xa la ca, .agg #[.int .i64 fam, .int .i64 src, .int .i64 scp, .slice xs ls cs]] s.val fun e w'' => e = .returned (.bool r) ∧ ∃ s' : Cl w9, w'' = s'.val) :=
    hid fun s => Calls.cl (inside_at (xs := xs) (cs := cs) (ls := ls) r a ⟨fam, src, scp, A⟩ s.val ((ha.below B9.out).below s.hb) ((hs.below B9.out).below s.hb) hla hls hr)
  have BE : Hid (∀ u, (∃ s : Cl w9, u = s.val) → Below w.heap.size w u) := hid fun u ⟨s, hs'⟩ => by rw [hs']; exact grown_on B9.out s.hb
  have hrr : (r != r) = false := by cases r <;> rfl
  clear hr
  refine wp_region_class (w0 := w9) (by kernel_rfl) (by kernel_rfl) (Below.refl _ _) ?_
  repeat (go_big_quiet_step (first | (go_at_call 29; exact Q1.out _) | (go_at_call 30; exact Q2.out _)))
  refine wpQuiet_nil ?_
  intro w10 hw10
  have B10 := hid (BE.out _ hw10)
  clear hw10 xc0 xc1 xc2 xc3 Q1 Q2 BE B9 K9
  go_wp2_with fail
  refine (sof_bad (hb.below B10.out) hlb h1.out).mono ?_
  rintro e w11 ⟨rfl, e11⟩
  have B11 := hid (grown_on B10.out e11)
  clear e11 B10
  have X11 := hid (Bl.new 61 w11 #[.int .i64 0, .int .i64 0, .int .i64 0, .slice none 0 0])
  have B12 := hid (B11.out.alloc B11.out.size (.cells #[.int .i64 0, .int .i64 0, .int .i64 0, .slice none 0 0] 61))
  go_wp2_with fail
  refine (dec_bad (hb.below B12.out) hlb h1.out).mono ?_
  rintro e w13 ⟨rfl, e13⟩
  have B13 := hid (grown_on B12.out e13)
  have X13 := hid (X11.out.below e13)
  clear e13 B12 X11
  obtain ⟨k3, hk3⟩ : ∃ k3, decE b = k3 := ⟨_, rfl⟩
  rw [hk3]
  clear hk3
  have X14 := hid (X13.out.below ((Below.refl _ _).alloc (Nat.le_refl _) (.cells #[.int .i64 0, .int .i64 0, .int .i64 0, .slice none 0 0] 61)))
  have V14 := hid (Bl.new 61 w13 #[.int .i64 0, .int .i64 0, .int .i64 0, .slice none 0 0])
  have B14 := hid (B13.out.alloc B13.out.size (.cells #[.int .i64 0, .int .i64 0, .int .i64 0, .slice none 0 0] 61))
  go_wp2_with fail
  refine (error_at k3 k3 _ _ (hg.below B14.out) rfl rfl).mono ?_
  rintro e w15 ⟨rfl, e15⟩
  have B15 := hid (grown_on B14.out e15)
  have X15 := X14.out.below e15
  have V15 := V14.out.below e15
  have x0 := X15.cell (i := 0) rfl
  have x1 := X15.cell (i := 1) rfl
  have x2 := X15.cell (i := 2) rfl
  have x3 := X15.cell (i := 3) rfl
  have v0 := V15.cell (i := 0) rfl
  have v1 := V15.cell (i := 1) rfl
  have v2 := V15.cell (i := 2) rfl
  have v3 := V15.cell (i := 3) rfl
  clear e15 X15 V15 X14 V14 X13
  go_wp2_with fail
  refine (nets_true 0 0 0 [] w15 (Bys.nil _ none 0) (Bys.nil _ none 0) rfl rfl).mono ?_
  rintro e w16 ⟨rfl, e16⟩
  have B16 := hid (grown_on B15.out e16)
  clear e16
  go_wp2_with fail
  go_ret
  exact ⟨rfl, B16.out⟩

theorem stells_walk {xa xs xb : Option Addr} {ca la cs cb lb : Nat} (a : List Int) (n : Int) (s : Sn) (b : List Int) (w : World) (ha : Bys w xa ca a) (hs : Bys w xs cs s.A) (hb : Bys w xb cb b) (hna : xa = none → ca = 0) (hla : a.length = la) (hlb : b.length = lb) (hal : a.length ≤ 140737488351232) (hg : Glob w) :
    Calls Tryd.prog 6 #[.slice xa la ca, .int .i64 n, .agg #[.int .i64 s.fam, .int .i64 s.src, .int .i64 s.scp, .slice xs s.A.length cs], .slice xb lb cb] w fun e w' => e = .returned (.bool true) ∧ Below w.heap.size w w' := by
  by_cases c0 : snE s = 0 <;> by_cases c1 : decE b = 0 <;> by_cases c2 : 0 ≤ n ∧ n ≤ 8 * (la : Int) <;> by_cases c3 : n < 0
  · exact st_ggg a n s.fam s.src s.scp s.A b w ha hs hb hna hla rfl hlb hal hg c2 c0 c1
  · exact st_ggg a n s.fam s.src s.scp s.A b w ha hs hb hna hla rfl hlb hal hg c2 c0 c1
  · exact st_lgg a n s.fam s.src s.scp s.A b w ha hs hb hna hla rfl hlb hal hg c2 c3 c0 c1
  · exact st_mgg a n s.fam s.src s.scp s.A b w ha hs hb hna hla rfl hlb hal hg c2 c3 (by omega) c0 c1
  · exact st_ggb a n s.fam s.src s.scp s.A b w ha hs hb hna hla rfl hlb hal hg c2 c0 c1
  · exact st_ggb a n s.fam s.src s.scp s.A b w ha hs hb hna hla rfl hlb hal hg c2 c0 c1
  · exact st_lgb a n s.fam s.src s.scp s.A b w ha hs hb hna hla rfl hlb hal hg c2 c3 c0 c1
  · exact st_mgb a n s.fam s.src s.scp s.A b w ha hs hb hna hla rfl hlb hal hg c2 c3 (by omega) c0 c1
  · exact st_gbg a n s.fam s.src s.scp s.A b w ha hs hb hna hla rfl hlb hal hg c2 c0 c1
  · exact st_gbg a n s.fam s.src s.scp s.A b w ha hs hb hna hla rfl hlb hal hg c2 c0 c1
  · exact st_lbg a n s.fam s.src s.scp s.A b w ha hs hb hna hla rfl hlb hal hg c2 c3 c0 c1
  · exact st_mbg a n s.fam s.src s.scp s.A b w ha hs hb hna hla rfl hlb hal hg c2 c3 (by omega) c0 c1
  · exact st_gbb a n s.fam s.src s.scp s.A b w ha hs hb hna hla rfl hlb hal hg c2 c0 c1
  · exact st_gbb a n s.fam s.src s.scp s.A b w ha hs hb hna hla rfl hlb hal hg c2 c0 c1
  · exact st_lbb a n s.fam s.src s.scp s.A b w ha hs hb hna hla rfl hlb hal hg c2 c3 c0 c1
  · exact st_mbb a n s.fam s.src s.scp s.A b w ha hs hb hna hla rfl hlb hal hg c2 c3 (by omega) c0 c1

end Go.Proofs.YtgfplkhcihcagaaDoor
