/-
  The walks of package subnet: fit, check, Mask, In.
-/
import Derived.Test.YtgfplkhcihcagaaDoorSubW
import Derived.Deep.RegionHeld3
namespace Go.Proofs.YtgfplkhcihcagaaDoor
open Go.RowKit Go.Deep

theorem MaskP.bys {n : Nat} {xs : List Int} {w w' : World} (hb : Bl 5 w' w.heap.size ((maskN n xs).map (Value.int .u8)).toArray) (hbs : ∀ x ∈ xs, 0 ≤ x ∧ x ≤ 255) (hl : xs.length ≤ 200000000000000) : Bys w' (some ⟨w.heap.size, 0, none⟩) xs.length (maskN n xs) := by
  refine ⟨by rw [maskN_len]; exact Nat.le_refl _, by rw [maskN_len]; exact hl, maskN_bytes n hbs, Or.inr ⟨w.heap.size, 0, rfl, hb.lt, fun i hi => ?_⟩⟩
  rw [Nat.zero_add]
  refine hb.cell ?_
  simp [List.getD_eq_getElem?_getD, List.getElem?_eq_getElem hi]

set_option maxHeartbeats 1000000 in
set_option maxRecDepth 100000 in
theorem sfit_at {x : Option Addr} {c l : Nat} (r : Bool) (s : Sn) (size : Nat) (w : World) (hsz : size ≤ 100) (hr : decide (fitN s size) = r) :
    Calls Tryd.prog 75 #[.agg #[.int .i64 s.fam, .int .i64 s.src, .int .i64 s.scp, .slice x l c], .int .i64 (size : Int)] w fun e w' => e = .returned (.bool r) ∧ Below w.heap.size w w' := by
  obtain ⟨fam, src, scp, A⟩ := s
  have B0 := hid ((Below.refl w.heap.size w).alloc (Nat.le_refl _) (.cells #[.int .i64 fam, .int .i64 src, .int .i64 scp, .slice x l c] 61))
  by_cases c1 : 0 ≤ src ∧ src ≤ (size : Int) * 8
  · by_cases c2 : 0 ≤ scp ∧ scp ≤ (size : Int) * 8
    · obtain rfl : r = true := by rw [← hr]; exact decide_eq_true ⟨c1, c2⟩
      have C1 := hid c1
      have C2 := hid c2
      clear c1 c2 hr
      go_enter Tryd.func75, Tryd.ntmps75
      go_wp2_with fail
      refine (rfits_at true _ _ _ (decide_eq_true C1.out)).mono ?_
      rintro e w1 ⟨rfl, rfl⟩
      go_wp2_with fail
      refine (rfits_at true _ _ _ (decide_eq_true C2.out)).mono ?_
      rintro e w1 ⟨rfl, rfl⟩
      go_wp2_with fail
      go_ret
      exact ⟨rfl, B0.out⟩
    · obtain rfl : r = false := by rw [← hr]; exact decide_eq_false (fun h => c2 h.2)
      have C1 := hid c1
      have C2 := hid c2
      clear c1 c2 hr
      go_enter Tryd.func75, Tryd.ntmps75
      go_wp2_with fail
      refine (rfits_at true _ _ _ (decide_eq_true C1.out)).mono ?_
      rintro e w1 ⟨rfl, rfl⟩
      go_wp2_with fail
      refine (rfits_at false _ _ _ (decide_eq_false C2.out)).mono ?_
      rintro e w1 ⟨rfl, rfl⟩
      go_wp2_with fail
      go_ret
      exact ⟨rfl, B0.out⟩
  · obtain rfl : r = false := by rw [← hr]; exact decide_eq_false (fun h => c1 h.1)
    have C1 := hid c1
    clear c1 hr
    go_enter Tryd.func75, Tryd.ntmps75
    go_wp2_with fail
    refine (rfits_at false _ _ _ (decide_eq_false C1.out)).mono ?_
    rintro e w1 ⟨rfl, rfl⟩
    go_wp2_with fail
    go_ret
    exact ⟨rfl, B0.out⟩

theorem wide_small (f : Int) : wideN f ≤ 16 := by unfold wideN; split <;> (try split) <;> omega

set_option maxHeartbeats 1000000 in
set_option maxRecDepth 100000 in
theorem scheck_at {x : Option Addr} {c l : Nat} (k : Int) (s : Sn) (w : World) (hl : s.A.length = l) (hl2 : s.A.length ≤ 200000000000000) (hk : snE s = k) :
    Calls Tryd.prog 68 #[.agg #[.int .i64 s.fam, .int .i64 s.src, .int .i64 s.scp, .slice x l c]] w fun e w' => e = .returned (errV k) ∧ Below w.heap.size w w' := by
  obtain ⟨fam, src, scp, A⟩ := s
  simp only at hl hl2 ⊢
  have hws := wide_small fam
  have B0 := hid ((Below.refl w.heap.size w).alloc (Nat.le_refl _) (.cells #[.int .i64 fam, .int .i64 src, .int .i64 scp, .slice x l c] 61))
  have C0 := Bl.new 61 w #[.int .i64 fam, .int .i64 src, .int .i64 scp, .slice x l c]
  unfold snE at hk
  simp only at hk
  by_cases c1 : wideN fam = 0
  · rw [if_pos c1] at hk
    subst hk
    have C1 := hid c1
    clear c1
    go_enter Tryd.func68, Tryd.ntmps68
    go_wp2_with fail
    refine (sizeOf_at fam _).mono ?_
    rintro e w1 ⟨rfl, rfl⟩
    rw [C1.out]
    go_wp2_with fail
    go_ret
    exact ⟨rfl, B0.out⟩
  · rw [if_neg c1] at hk
    by_cases c2 : A.length = wideN fam
    · rw [if_neg (by simpa using c2)] at hk
      have hne : ((l : Int) != ((wideN fam : Nat) : Int)) = false := by rw [← hl, c2]; simp
      have hn0 : (((wideN fam : Nat) : Int) == 0) = false := by simpa using c1
      have HS := sizeOf_at fam
      have HF := hid (sfit_at (x := x) (c := c) (l := l) (decide (fitN ⟨fam, src, scp, A⟩ (wideN fam))) ⟨fam, src, scp, A⟩ (wideN fam) (w.alloc (.cells #[.int .i64 fam, .int .i64 src, .int .i64 scp, .slice x l c] 61)) (by omega) rfl)
      have HK := hid hk
      clear c1 c2 hk
      generalize wideN fam = sz at *
      by_cases c3 : fitN ⟨fam, src, scp, A⟩ sz
      · have hk := HK.out
        rw [if_neg (by simpa using c3)] at hk
        subst hk
        have HF2 := HF.out
        rw [decide_eq_true c3] at HF2
        have HG := hid HF2
        clear HF HF2 HK c3
        go_enter Tryd.func68, Tryd.ntmps68
        go_wp2_with fail
        refine (HS _).mono ?_
        rintro e w1 ⟨rfl, rfl⟩
        clear HS
        go_wp2_with fail
        refine HG.out.mono ?_
        rintro e w1 ⟨rfl, d1⟩
        have B1 := hid (B0.out.trans (d1.mono B0.out.size))
        clear d1
        go_wp2_with fail
        go_ret
        exact ⟨rfl, B1.out⟩
      · have hk := HK.out
        rw [if_pos c3] at hk
        subst hk
        have HF2 := HF.out
        rw [decide_eq_false c3] at HF2
        have HG := hid HF2
        clear HF HF2 HK c3
        go_enter Tryd.func68, Tryd.ntmps68
        go_wp2_with fail
        refine (HS _).mono ?_
        rintro e w1 ⟨rfl, rfl⟩
        clear HS
        go_wp2_with fail
        refine HG.out.mono ?_
        rintro e w1 ⟨rfl, d1⟩
        have B1 := hid (B0.out.trans (d1.mono B0.out.size))
        clear d1
        go_wp2_with fail
        go_ret
        exact ⟨rfl, B1.out⟩
    · rw [if_pos c2] at hk
      subst hk
      have hne : ((l : Int) != ((wideN fam : Nat) : Int)) = true := by rw [bne_iff_ne]; omega
      have hn0 : (((wideN fam : Nat) : Int) == 0) = false := by simpa using c1
      have HS := sizeOf_at fam
      clear c1 c2
      generalize wideN fam = sz at *
      go_enter Tryd.func68, Tryd.ntmps68
      go_wp2_with fail
      refine (HS _).mono ?_
      rintro e w1 ⟨rfl, rfl⟩
      clear HS
      go_wp2_with fail
      go_ret
      exact ⟨rfl, B0.out⟩

set_option maxHeartbeats 1000000 in
set_option maxRecDepth 100000 in
theorem mask_good {x : Option Addr} {c l : Nat} (n : Int) (xs : List Int) (w : World) (h : Bys w x c xs) (hx : x = none → c = 0) (hn0 : 0 ≤ n) (hn : n ≤ 8 * xs.length) (hl : xs.length = l) :
    Calls Tryd.prog 25 #[.slice x l c, .int .i64 n] w fun e w' => ∃ g, e = .returned (.tuple #[.slice (some ⟨g, 0, none⟩) l l, .nilIface]) ∧ Bys w' (some ⟨g, 0, none⟩) l (maskN n.toNat xs) ∧ Below w.heap.size w w' := by
  obtain ⟨m, rfl⟩ : ∃ m : Nat, n = (m : Int) := ⟨n.toNat, by omega⟩
  have hlen : xs.length ≤ 200000000000000 := h.2.1
  have C1 := hid (masked_any m xs w h hx (by omega) hl)
  have C2 : Hid (decide (0 ≤ (m : Int) ∧ (m : Int) ≤ (l : Int) * 8) = true) := hid (decide_eq_true (by omega))
  have HB := hid h
  go_enter Tryd.func25, Tryd.ntmps25
  go_wp2_with fail
  refine (rfits_at true _ _ _ C2.out).mono ?_
  rintro e w1 ⟨rfl, rfl⟩
  go_wp2_with fail
  refine C1.out.mono ?_
  rintro e w1 ⟨rfl, k1, d1⟩
  have K1 := hid (MaskP.bys k1 HB.out.2.2.1 hlen)
  have D1 := hid d1
  clear k1 d1
  go_wp2_with fail
  go_ret2
  refine ⟨w.heap.size, by rw [← hl]; rfl, ?_, D1.out⟩
  rw [← hl]
  exact K1.out

set_option maxHeartbeats 1000000 in
set_option maxRecDepth 100000 in
theorem mask_bad {x : Option Addr} {c l : Nat} (n : Int) (w : World) (hl : l ≤ 200000000000000) (hn : ¬ (0 ≤ n ∧ n ≤ 8 * (l : Int))) :
    Calls Tryd.prog 25 #[.slice x l c, .int .i64 n] w fun e w' => e = .returned (.tuple #[.slice none 0 0, errV 6]) ∧ w = w' := by
  have C2 : Hid (decide (0 ≤ n ∧ n ≤ (l : Int) * 8) = false) := hid (decide_eq_false (by omega))
  clear hn
  go_enter Tryd.func25, Tryd.ntmps25
  go_wp2_with fail
  refine (rfits_at false _ _ _ C2.out).mono ?_
  rintro e w1 ⟨rfl, rfl⟩
  go_wp2_with fail
  go_ret2
  exact ⟨rfl, rfl⟩

set_option maxHeartbeats 1000000 in
set_option maxRecDepth 100000 in
theorem in_no {xa xs : Option Addr} {ca la cs ls : Nat} (a : List Int) (s : Sn) (w : World) (_ha : a.length ≤ 200000000000000) (hs : s.A.length ≤ 200000000000000) (hla : a.length = la) (hls : s.A.length = ls) (hr : ¬ (snE s = 0 ∧ a.length = s.A.length)) :
    Calls Tryd.prog 29 #[.slice xa la ca, .agg #[.int .i64 s.fam, .int .i64 s.src, .int .i64 s.scp, .slice xs ls cs]] w fun e w' => e = .returned (.bool false) ∧ Below w.heap.size w w' := by
  obtain ⟨fam, src, scp, A⟩ := s
  simp only at hls hs hr ⊢
  have B0 := hid ((Below.refl w.heap.size w).alloc (Nat.le_refl _) (.cells #[.int .i64 fam, .int .i64 src, .int .i64 scp, .slice xs ls cs] 61))
  have C0 := hid (Bl.new 61 w #[.int .i64 fam, .int .i64 src, .int .i64 scp, .slice xs ls cs])
  have HC := hid (scheck_at (x := xs) (c := cs) (l := ls) _ ⟨fam, src, scp, A⟩ (w.alloc (.cells #[.int .i64 fam, .int .i64 src, .int .i64 scp, .slice xs ls cs] 61)) hls hs rfl)
  by_cases c1 : snE ⟨fam, src, scp, A⟩ = 0
  · have hne : ((la : Int) != (ls : Int)) = true := by rw [bne_iff_ne]; intro q; exact hr ⟨c1, by omega⟩
    rw [c1] at HC
    clear hr c1
    go_enter Tryd.func29, Tryd.ntmps29
    go_wp2_with fail
    refine HC.out.mono ?_
    rintro e w1 ⟨rfl, d1⟩
    have hc3 := (C0.out.below d1).cell (i := 3) rfl
    have B1 := hid (B0.out.trans (d1.mono B0.out.size))
    clear d1
    rw [show errV 0 = .nilIface from rfl]
    go_wp2_with fail
    go_ret
    exact ⟨rfl, B1.out⟩
  · rw [errV_some c1] at HC
    clear hr c1
    generalize snE ⟨fam, src, scp, A⟩ = k at *
    go_enter Tryd.func29, Tryd.ntmps29
    go_wp2_with fail
    refine HC.out.mono ?_
    rintro e w1 ⟨rfl, d1⟩
    have B1 := hid (B0.out.trans (d1.mono B0.out.size))
    clear d1
    go_wp2_with fail
    go_ret
    exact ⟨rfl, B1.out⟩

set_option maxHeartbeats 4000000 in
set_option maxRecDepth 100000 in
theorem in_yes {ba oa bs os : Nat} {ca la cs ls : Nat} (r : Bool) (a : List Int) (s : Sn) (w : World) (ha : Bys w (some ⟨ba, oa, none⟩) ca a) (hs : Bys w (some ⟨bs, os, none⟩) cs s.A) (hla : a.length = la) (hls : s.A.length = ls) (h0 : snE s = 0) (hal : a.length = s.A.length) (hr : decide (maskN s.src.toNat a = maskN s.src.toNat s.A) = r) :
    Calls Tryd.prog 29 #[.slice (some ⟨ba, oa, none⟩) la ca, .agg #[.int .i64 s.fam, .int .i64 s.src, .int .i64 s.scp, .slice (some ⟨bs, os, none⟩) ls cs]] w fun e w' => e = .returned (.bool r) ∧ Below w.heap.size w w' := by
  obtain ⟨fam, src, scp, A⟩ := s
  simp only at hls hs hal hr ⊢
  obtain ⟨hfam, hw, hf⟩ := snE_zero h0
  simp only at hfam hf
  obtain ⟨m, rfl⟩ : ∃ m : Nat, src = (m : Int) := ⟨src.toNat, by have := hf.1; simp only at this; omega⟩
  have hm : m ≤ 8 * A.length := by have := hf.1; simp only at this; omega
  rw [Int.toNat_natCast] at hr
  have B0 := hid ((Below.refl w.heap.size w).alloc (Nat.le_refl _) (.cells #[.int .i64 fam, .int .i64 (m : Int), .int .i64 scp, .slice (some ⟨bs, os, none⟩) ls cs] 61))
  have C0 := hid (Bl.new 61 w #[.int .i64 fam, .int .i64 (m : Int), .int .i64 scp, .slice (some ⟨bs, os, none⟩) ls cs])
  have HC := hid (scheck_at (x := some ⟨bs, os, none⟩) (c := cs) (l := ls) 0 ⟨fam, m, scp, A⟩ (w.alloc (.cells #[.int .i64 fam, .int .i64 (m : Int), .int .i64 scp, .slice (some ⟨bs, os, none⟩) ls cs] 61)) hls hs.2.1 h0)
  have hne : ((la : Int) != (ls : Int)) = false := by rw [bne_eq_false_iff_eq]; omega
  have hlen : A.length ≤ 200000000000000 := hs.2.1
  have HR := hid hr
  have HAL := hid hal
  have HF := hid hfam
  clear hr hal hfam hw hf h0
  go_enter Tryd.func29, Tryd.ntmps29
  go_wp2_with fail
  refine HC.out.mono ?_
  rintro e w1 ⟨rfl, d1⟩
  have hc1 := (C0.out.below d1).cell (i := 1) rfl
  have hc3 := (C0.out.below d1).cell (i := 3) rfl
  have B1 := hid (B0.out.trans (d1.mono B0.out.size))
  have hlt := Nat.lt_of_lt_of_le C0.out.lt d1.size
  clear d1 HC
  rw [show errV 0 = .nilIface from rfl]
  go_wp2_with fail
  have M1 : Hid (∀ u, Below w1.heap.size w1 u → Calls Tryd.prog 66 #[.slice (some ⟨ba, oa, none⟩) la ca, .int .i64 (m : Int)] u fun e u' => ∃ g, e = .returned (.slice (some ⟨g, 0, none⟩) la la) ∧ Bl 5 u' g ((maskN m a).map (Value.int .u8)).toArray ∧ Below w1.heap.size w1 u') := by
    refine hid fun u hu => (masked_any m a u ((ha.below B1.out).below hu) (fun q => by cases q) (by have := HAL.out; omega) hla).mono ?_
    rintro e u' ⟨rfl, k, d⟩
    exact ⟨u.heap.size, by rw [hla], k, hu.trans (d.mono hu.size)⟩
  have M2 : Hid (∀ u, Below w1.heap.size w1 u → Calls Tryd.prog 66 #[.slice (some ⟨bs, os, none⟩) ls cs, .int .i64 (m : Int)] u fun e u' => ∃ g, e = .returned (.slice (some ⟨g, 0, none⟩) ls ls) ∧ Bl 5 u' g ((maskN m A).map (Value.int .u8)).toArray ∧ Below u.heap.size u u' ∧ Below w1.heap.size w1 u') := by
    refine hid fun u hu => (masked_any m A u ((hs.below B1.out).below hu) (fun q => by cases q) hm hls).mono ?_
    rintro e u' ⟨rfl, k, d⟩
    exact ⟨u.heap.size, by rw [hls], k, d, hu.trans (d.mono hu.size)⟩
  have M3 : Hid (∀ (u : World) (g1 g2 : Nat), Bl 5 u g1 ((maskN m a).map (Value.int .u8)).toArray → Bl 5 u g2 ((maskN m A).map (Value.int .u8)).toArray → Calls Tryd.prog 71 #[.slice (some ⟨g1, 0, none⟩) la la, .slice (some ⟨g2, 0, none⟩) ls ls] u fun e u' => e = .returned (.bool r) ∧ u = u') := by
    refine hid fun u g1 g2 k1 k2 => ?_
    refine bequal_at r (maskN m a) (maskN m A) u (maskN_bytes m ha.2.2.1) (maskN_bytes m hs.2.2.1) (fun i hi => ?_) (fun i hi => ?_) (by rw [maskN_len, hla]) (by rw [maskN_len, hls]) HR.out
    · rw [Nat.zero_add]; refine k1.cell ?_; simp [List.getD_eq_getElem?_getD, List.getElem?_eq_getElem hi]
    · rw [Nat.zero_add]; refine k2.cell ?_; simp [List.getD_eq_getElem?_getD, List.getElem?_eq_getElem hi]
  have PK : Hid (∀ u, Below w1.heap.size w1 u → u.cell? ⟨w.heap.size, 1, none⟩ = some (.int .i64 (m : Int)) ∧ u.cell? ⟨w.heap.size, 3, none⟩ = some (.slice (some ⟨bs, os, none⟩) ls cs) ∧ Below w1.heap.size w1 u) :=
    hid fun u hu => ⟨by rw [hu.cell (p := ⟨w.heap.size, 1, none⟩) hlt]; exact hc1, by rw [hu.cell (p := ⟨w.heap.size, 3, none⟩) hlt]; exact hc3, hu⟩
  clear ha hs HR HAL HF
  go_region_held3 (fun u => u.cell? ⟨w.heap.size, 1, none⟩ = some (.int .i64 (m : Int)) ∧ u.cell? ⟨w.heap.size, 3, none⟩ = some (.slice (some ⟨bs, os, none⟩) ls cs) ∧ Below w1.heap.size w1 u) (with_reducible (first | assumption | exact PK.out _ (Below.drew (Below.refl _ _)) | exact PK.out _ HB2 | exact PK.out _ HB3))
    (first
      | (go_at_call_of 66 ca; refine (M1.out _ ?_).mono ?_; (first | assumption | exact Below.drew (Below.refl _ _)); rintro e w2 ⟨g1, rfl, K1, HB2⟩)
      | (go_at_call_of 66 cs; refine (M2.out _ ?_).mono ?_; (first | assumption | exact Below.drew (Below.refl _ _)); rintro e w3 ⟨g2, rfl, K2, D3, HB3⟩)
      | (go_at_call 71; refine (M3.out _ _ _ (K1.below D3) K2).mono ?_; rintro e w4 ⟨rfl, rfl⟩))
  all_goals
    have BE := hid (grown_on B1.out HB3)
    go_wp2_with fail
    go_ret
    exact ⟨rfl, BE.out⟩

theorem in_at {xa xs : Option Addr} {ca la cs ls : Nat} (r : Bool) (a : List Int) (s : Sn) (w : World) (ha : Bys w xa ca a) (hs : Bys w xs cs s.A) (hla : a.length = la) (hls : s.A.length = ls) (hr : decide (inN a s) = r) :
    Calls Tryd.prog 29 #[.slice xa la ca, .agg #[.int .i64 s.fam, .int .i64 s.src, .int .i64 s.scp, .slice xs ls cs]] w fun e w' => e = .returned (.bool r) ∧ Below w.heap.size w w' := by
  by_cases c1 : snE s = 0 ∧ a.length = s.A.length
  · obtain ⟨h0, hal⟩ := c1
    obtain ⟨hfam, _, _⟩ := snE_zero h0
    rcases ha.2.2.2 with e | ⟨ba, oa, rfl, _, _⟩
    · rw [e] at hal; simp only [List.length_nil] at hal; omega
    rcases hs.2.2.2 with e | ⟨bs, os, rfl, _, _⟩
    · rw [e] at hfam; simp only [List.length_nil] at hfam; omega
    refine in_yes r a s w ha hs hla hls h0 hal ?_
    rw [← hr]
    unfold inN
    simp [h0, hal]
  · obtain rfl : r = false := by rw [← hr]; exact decide_eq_false (fun h => c1 ⟨h.1, h.2.1⟩)
    exact in_no a s w ha.2.1 hs.2.1 hla hls c1

end Go.Proofs.YtgfplkhcihcagaaDoor
