/-
  The walks of package subnet: fit, check, Mask, In.
-/
import Derived.Test.YtodpbkbbefacnaaSubW
import Derived.Deep.RegionHeld3
namespace Go.Proofs.Ytodpbkbbefacnaa
open Go.RowKit Go.Deep

theorem MaskP.bys {n : Nat} {xs : List Int} {w w' : World} (hb : Bl 5 w' w.heap.size ((maskN n xs).map (Value.int .u8)).toArray) (hbs : ∀ x ∈ xs, 0 ≤ x ∧ x ≤ 255) (hl : xs.length ≤ 200000000000000) : Bys w' (some ⟨w.heap.size, 0, none⟩) xs.length (maskN n xs) := by
  refine ⟨by rw [maskN_len]; exact Nat.le_refl _, by rw [maskN_len]; exact hl, maskN_bytes n hbs, Or.inr ⟨w.heap.size, 0, rfl, hb.lt, fun i hi => ?_⟩⟩
  rw [Nat.zero_add]
  refine hb.cell ?_
  simp [List.getD_eq_getElem?_getD, List.getElem?_eq_getElem hi]

set_option maxHeartbeats 1000000 in
set_option maxRecDepth 100000 in
theorem sfit_at {x : Option Addr} {c l : Nat} (r : Bool) (s : Sn) (size : Nat) (w : World) (hsz : size ≤ 100) (hr : decide (fitN s size) = r) :
    Calls Try.prog 40 #[.agg #[.int .i64 s.fam, .int .i64 s.src, .int .i64 s.scp, .slice x l c], .int .i64 (size : Int)] w fun e w' => e = .returned (.bool r) ∧ Below w.heap.size w w' := by
  obtain ⟨fam, src, scp, A⟩ := s
  have B0 := hid ((Below.refl w.heap.size w).alloc (Nat.le_refl _) (.cells #[.int .i64 fam, .int .i64 src, .int .i64 scp, .slice x l c] 47))
  by_cases c1 : 0 ≤ src ∧ src ≤ (size : Int) * 8
  · by_cases c2 : 0 ≤ scp ∧ scp ≤ (size : Int) * 8
    · obtain rfl : r = true := by rw [← hr]; exact decide_eq_true ⟨c1, c2⟩
      have C1 := hid c1
      have C2 := hid c2
      clear c1 c2 hr
      go_enter Try.func40, Try.ntmps40
      go_wp2_with fail
      refine (rfits_at true _ _ _ (decide_eq_true C1.out)).mono ?_
      rintro e w1 ⟨rfl, rfl⟩
      go_wp2_with fail
      refine (rfits_at true _ _ _ (decide_eq_true C2.out)).mono ?_
      rintro e w1 ⟨rfl, rfl⟩
      go_wp2_with fail
      go_ret
      exact ⟨rfl, B0.out⟩
    · obtain rfl : r = false := by rw [← hr]; exact decide_eq_false (fun h => c2 h.2)
      have C1 := hid c1
      have C2 := hid c2
      clear c1 c2 hr
      go_enter Try.func40, Try.ntmps40
      go_wp2_with fail
      refine (rfits_at true _ _ _ (decide_eq_true C1.out)).mono ?_
      rintro e w1 ⟨rfl, rfl⟩
      go_wp2_with fail
      refine (rfits_at false _ _ _ (decide_eq_false C2.out)).mono ?_
      rintro e w1 ⟨rfl, rfl⟩
      go_wp2_with fail
      go_ret
      exact ⟨rfl, B0.out⟩
  · obtain rfl : r = false := by rw [← hr]; exact decide_eq_false (fun h => c1 h.1)
    have C1 := hid c1
    clear c1 hr
    go_enter Try.func40, Try.ntmps40
    go_wp2_with fail
    refine (rfits_at false _ _ _ (decide_eq_false C1.out)).mono ?_
    rintro e w1 ⟨rfl, rfl⟩
    go_wp2_with fail
    go_ret
    exact ⟨rfl, B0.out⟩

theorem wide_small (f : Int) : wideN f ≤ 16 := by unfold wideN; split <;> (try split) <;> omega

set_option maxHeartbeats 1000000 in
set_option maxRecDepth 100000 in
theorem scheck_at {x : Option Addr} {c l : Nat} (k : Int) (s : Sn) (w : World) (hl : s.A.length = l) (hl2 : s.A.length ≤ 200000000000000) (hk : snE s = k) :
    Calls Try.prog 34 #[.agg #[.int .i64 s.fam, .int .i64 s.src, .int .i64 s.scp, .slice x l c]] w fun e w' => e = .returned (errV k) ∧ Below w.heap.size w w' := by
  obtain ⟨fam, src, scp, A⟩ := s
  simp only at hl hl2 ⊢
  have hws := wide_small fam
  have B0 := hid ((Below.refl w.heap.size w).alloc (Nat.le_refl _) (.cells #[.int .i64 fam, .int .i64 src, .int .i64 scp, .slice x l c] 47))
  have C0 := Bl.new 47 w #[.int .i64 fam, .int .i64 src, .int .i64 scp, .slice x l c]
  unfold snE at hk
  simp only at hk
  by_cases c1 : wideN fam = 0
  · rw [if_pos c1] at hk
    subst hk
    have C1 := hid c1
    clear c1
    go_enter Try.func34, Try.ntmps34
    go_wp2_with fail
    refine (sizeOf_at fam _).mono ?_
    rintro e w1 ⟨rfl, rfl⟩
    rw [C1.out]
    go_wp2_with fail
    go_ret
    exact ⟨rfl, B0.out⟩
  · rw [if_neg c1] at hk
    by_cases c2 : A.length = wideN fam
    · rw [if_neg (by simpa using c2)] at hk
      have hne : ((l : Int) != ((wideN fam : Nat) : Int)) = false := by rw [← hl, c2]; simp
      have hn0 : (((wideN fam : Nat) : Int) == 0) = false := by simpa using c1
      have HS := sizeOf_at fam
      have HF := hid (sfit_at (x := x) (c := c) (l := l) (decide (fitN ⟨fam, src, scp, A⟩ (wideN fam))) ⟨fam, src, scp, A⟩ (wideN fam) (w.alloc (.cells #[.int .i64 fam, .int .i64 src, .int .i64 scp, .slice x l c] 47)) (by omega) rfl)
      have HK := hid hk
      clear c1 c2 hk
      generalize wideN fam = sz at *
      by_cases c3 : fitN ⟨fam, src, scp, A⟩ sz
      · have hk := HK.out
        rw [if_neg (by simpa using c3)] at hk
        subst hk
        have HF2 := HF.out
        rw [decide_eq_true c3] at HF2
        have HG := hid HF2
        clear HF HF2 HK c3
        go_enter Try.func34, Try.ntmps34
        go_wp2_with fail
        refine (HS _).mono ?_
        rintro e w1 ⟨rfl, rfl⟩
        clear HS
        go_wp2_with fail
        refine HG.out.mono ?_
        rintro e w1 ⟨rfl, d1⟩
        have B1 := hid (B0.out.trans (d1.mono B0.out.size))
        clear d1
        go_wp2_with fail
        go_ret
        exact ⟨rfl, B1.out⟩
      · have hk := HK.out
        rw [if_pos c3] at hk
        subst hk
        have HF2 := HF.out
        rw [decide_eq_false c3] at HF2
        have HG := hid HF2
        clear HF HF2 HK c3
        go_enter Try.func34, Try.ntmps34
        go_wp2_with fail
        refine (HS _).mono ?_
        rintro e w1 ⟨rfl, rfl⟩
        clear HS
        go_wp2_with fail
        refine HG.out.mono ?_
        rintro e w1 ⟨rfl, d1⟩
        have B1 := hid (B0.out.trans (d1.mono B0.out.size))
        clear d1
        go_wp2_with fail
        go_ret
        exact ⟨rfl, B1.out⟩
    · rw [if_pos c2] at hk
      subst hk
      have hne : ((l : Int) != ((wideN fam : Nat) : Int)) = true := by rw [bne_iff_ne]; omega
      have hn0 : (((wideN fam : Nat) : Int) == 0) = false := by simpa using c1
      have HS := sizeOf_at fam
      clear c1 c2
      generalize wideN fam = sz at *
      go_enter Try.func34, Try.ntmps34
      go_wp2_with fail
      refine (HS _).mono ?_
      rintro e w1 ⟨rfl, rfl⟩
      clear HS
      go_wp2_with fail
      go_ret
      exact ⟨rfl, B0.out⟩

set_option maxHeartbeats 1000000 in
set_option maxRecDepth 100000 in
theorem mask_good {x : Option Addr} {c l : Nat} (n : Int) (xs : List Int) (w : World) (h : Bys w x c xs) (hx : x = none → c = 0) (hn0 : 0 ≤ n) (hn : n ≤ 8 * xs.length) (hl : xs.length = l) :
    Calls Try.prog 16 #[.slice x l c, .int .i64 n] w fun e w' => ∃ g, e = .returned (.tuple #[.slice (some ⟨g, 0, none⟩) l l, .nilIface]) ∧ Bys w' (some ⟨g, 0, none⟩) l (maskN n.toNat xs) ∧ Below w.heap.size w w' := by
  obtain ⟨m, rfl⟩ : ∃ m : Nat, n = (m : Int) := ⟨n.toNat, by omega⟩
  have hlen : xs.length ≤ 200000000000000 := h.2.1
  have C1 := hid (masked_any m xs w h hx (by omega) hl)
  have C2 : Hid (decide (0 ≤ (m : Int) ∧ (m : Int) ≤ (l : Int) * 8) = true) := hid (decide_eq_true (by omega))
  have HB := hid h
  go_enter Try.func16, Try.ntmps16
  go_wp2_with fail
  refine (rfits_at true _ _ _ C2.out).mono ?_
  rintro e w1 ⟨rfl, rfl⟩
  go_wp2_with fail
  refine C1.out.mono ?_
  rintro e w1 ⟨rfl, k1, d1⟩
  have K1 := hid (MaskP.bys k1 HB.out.2.2.1 hlen)
  have D1 := hid d1
  clear k1 d1
  go_wp2_with fail
  go_ret2
  refine ⟨w.heap.size, by rw [← hl]; rfl, ?_, D1.out⟩
  rw [← hl]
  exact K1.out

set_option maxHeartbeats 1000000 in
set_option maxRecDepth 100000 in
theorem mask_bad {x : Option Addr} {c l : Nat} (n : Int) (w : World) (hl : l ≤ 200000000000000) (hn : ¬ (0 ≤ n ∧ n ≤ 8 * (l : Int))) :
    Calls Try.prog 16 #[.slice x l c, .int .i64 n] w fun e w' => e = .returned (.tuple #[.slice none 0 0, errV 6]) ∧ w = w' := by
  have C2 : Hid (decide (0 ≤ n ∧ n ≤ (l : Int) * 8) = false) := hid (decide_eq_false (by omega))
  clear hn
  go_enter Try.func16, Try.ntmps16
  go_wp2_with fail
  refine (rfits_at false _ _ _ C2.out).mono ?_
  rintro e w1 ⟨rfl, rfl⟩
  go_wp2_with fail
  go_ret2
  exact ⟨rfl, rfl⟩

end Go.Proofs.Ytodpbkbbefacnaa
