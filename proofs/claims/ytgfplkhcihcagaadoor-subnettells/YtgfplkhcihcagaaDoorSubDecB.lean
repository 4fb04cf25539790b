/-
  The walk of subnet.Decode, its other ways.
-/
import Derived.Test.YtgfplkhcihcagaaDoorSubDec
namespace Go.Proofs.YtgfplkhcihcagaaDoor
open Go.RowKit Go.Deep

set_option maxHeartbeats 4000000 in
set_option maxRecDepth 100000 in
theorem dec_len_a {bk off c l : Nat} (b : List Int) (w : World) (h : Bys w (some ⟨bk, off, none⟩) c b) (hl : b.length = l) (h4 : 4 ≤ b.length) (HWn0 : ¬ wideN (snOf b).fam = 0) (hft : fitN (snOf b) (wideN (snOf b).fam)) (hln : ¬ b.length - 4 = touchN (snOf b).src.toNat) (hc4 : ¬ c = 4) :
    Calls Tryd.prog 32 #[.slice (some ⟨bk, off, none⟩) l c] w (DecP b w) := by
  have hlen : b.length ≤ 200000000000000 := h.2.1
  have hbs := h.2.2.1
  have hlc : b.length ≤ c := h.1
  have B0 := (Below.refl w.heap.size w).alloc (Nat.le_refl _) (.cells #[.int .i64 0, .int .i64 0, .int .i64 0, .slice none 0 0] 61)
  have Z0 := Bl.new 61 w #[.int .i64 0, .int .i64 0, .int .i64 0, .slice none 0 0]
  obtain ⟨w1, hw1⟩ : ∃ w1, w1 = w.alloc (.cells #[.int .i64 0, .int .i64 0, .int .i64 0, .slice none 0 0] 61) := ⟨_, rfl⟩
  have hsz1 : w1.heap.size = w.heap.size + 1 := by rw [hw1]; simp
  rw [← hw1] at B0 Z0
  have h1 := h.below B0
  obtain ⟨_, _, _, hd⟩ := h1
  rcases hd with hd | ⟨bk', off', e', hbk, hq⟩
  · rw [hd] at h4; simp at h4
  cases e'
  have HP : Hid (∀ u, Below w1.heap.size w1 u → Calls Tryd.prog 73 #[.slice (some ⟨bk, off, none⟩) 2 c] u fun e u' => e = .returned (.int .i64 (snOf b).fam) ∧ u = u') := by
    refine hid fun u hu => ?_
    have hk : ((b.take 2)).length = 2 := by rw [List.length_take]; omega
    refine number_at _ (b.take 2) u ?_ hk (by omega) rfl
    refine ⟨by omega, by omega, fun y hy => hbs y (List.mem_of_mem_take hy), Or.inr ⟨bk, off, rfl, Nat.lt_of_lt_of_le hbk hu.size, fun i hi => ?_⟩⟩
    rw [hu.cell (p := ⟨bk, off + i, none⟩) hbk, hq i (by omega), sub_take 2 i b (by omega)]
  have hc2 := hq 2 (by omega)
  have hc3 := hq 3 (by omega)
  have e2 : b.getD 2 0 = (snOf b).src := rfl
  have e3 : b.getD 3 0 = (snOf b).scp := rfl
  rw [e2] at hc2
  rw [e3] at hc3
  have r2 : 0 ≤ (snOf b).src ∧ (snOf b).src ≤ 255 := getD_byte hbs 2
  have r3 : 0 ≤ (snOf b).scp ∧ (snOf b).scp ≤ 255 := getD_byte hbs 3
  obtain ⟨r20, r21⟩ := r2
  obtain ⟨r30, r31⟩ := r3
  have HB0 := hid B0
  have HZ0 := hid Z0
  have HQ := hid hq
  have HW1 := hid hw1
  have j2 : (2 : Int) ≤ (c : Int) := by omega
  have j3 : (2 : Int) < (l : Int) := by omega
  have j4 : (3 : Int) < (l : Int) := by omega
  have j5 : ¬ (l : Int) < 4 := by omega
  have PK : Hid (∀ u, Below w1.heap.size w1 u → u.cell? ⟨bk, off + 2, none⟩ = some (.int .u8 (snOf b).src) ∧ u.cell? ⟨bk, off + 3, none⟩ = some (.int .u8 (snOf b).scp) ∧ Below w1.heap.size w1 u) :=
    hid fun u hu => ⟨by rw [hu.cell (p := ⟨bk, off + 2, none⟩) hbk]; exact hc2, by rw [hu.cell (p := ⟨bk, off + 3, none⟩) hbk]; exact hc3, hu⟩
  obtain ⟨fam, hfam⟩ : ∃ fam, (snOf b).fam = fam := ⟨_, rfl⟩
  obtain ⟨src, hsrc⟩ : ∃ src, (snOf b).src = src := ⟨_, rfl⟩
  obtain ⟨scp, hscp⟩ : ∃ scp, (snOf b).scp = scp := ⟨_, rfl⟩
  rw [hfam] at HP
  rw [hsrc, hscp] at PK
  rw [hsrc] at r20 r21
  rw [hscp] at r30 r31
  have wr2 := wrap_i64 src r20 (by omega)
  have wr3 := wrap_i64 scp r30 (by omega)
  have HF := hid hfam
  have HS := hid hsrc
  have HC := hid hscp
  clear hc2 hc3 e2 e3 hq B0 Z0 hfam hsrc hscp hw1
  go_enter Tryd.func32, Tryd.ntmps32
  go_wp2_with fail
  rw [← HW1.out]
  go_region_held3 (fun u => u.cell? ⟨bk, off + 2, none⟩ = some (.int .u8 src) ∧ u.cell? ⟨bk, off + 3, none⟩ = some (.int .u8 scp) ∧ Below w1.heap.size w1 u) (with_reducible (first | assumption | exact PK.out _ (Below.drew (Below.refl _ _)) | exact PK.out _ ((Below.refl _ _).alloc (Nat.le_refl _) _).drew))
    (first
      | (go_at_call 73; refine (HP.out _ ?_).mono ?_; (first | assumption | exact Below.drew (Below.refl _ _) | exact ((Below.refl _ _).alloc (Nat.le_refl _) _).drew); rintro e w' ⟨rfl, rfl⟩))
  all_goals
    have KX : Bl 61 (w1.alloc (.cells #[.int .i64 fam, .int .i64 src, .int .i64 scp, .slice none 0 0] 61)).drew (w.heap.size + 1) #[.int .i64 fam, .int .i64 src, .int .i64 scp, .slice none 0 0] := by rw [← hsz1]; exact (Bl.new 61 w1 _).drew
    have BW : Below w1.heap.size w1 (w1.alloc (.cells #[.int .i64 fam, .int .i64 src, .int .i64 scp, .slice none 0 0] 61)).drew := ((Below.refl _ w1).alloc (Nat.le_refl _) _).drew
    have KZ := HZ0.out.below BW
    have B3 := hid (grown_on HB0.out BW)
    have V3 := hid BW
    generalize (w1.alloc (.cells #[.int .i64 fam, .int .i64 src, .int .i64 scp, .slice none 0 0] 61)).drew = W3 at *
    have x0 := KX.cell (i := 0) rfl
    have x1 := KX.cell (i := 1) rfl
    have x2 := KX.cell (i := 2) rfl
    have x3 := KX.cell (i := 3) rfl
    have z0 := KZ.cell (i := 0) rfl
    have z1 := KZ.cell (i := 1) rfl
    have z2 := KZ.cell (i := 2) rfl
    have z3 := KZ.cell (i := 3) rfl
    have f0 := KZ.frozen 0
    have f1 := KZ.frozen 1
    have f2 := KZ.frozen 2
    have f3 := KZ.frozen 3
    have QX := hid KX
    have QZ := hid KZ
    clear KX KZ BW
    go_wp2_with fail
    refine (sizeOf_at fam W3).mono ?_
    rintro e w' ⟨rfl, rfl⟩
    have HE : Hid (decE b = 1) := hid (by unfold decE; rw [if_neg (by omega), if_neg (by intro q; rcases q with q | q; exact HWn0 q; exact q hft), if_pos hln])
    have HWn : Hid (¬ wideN fam = 0) := hid (by rw [← HF.out]; exact HWn0)
    have hws := wide_small fam
    have HFT : Hid (decide (fitN ⟨fam, src, scp, []⟩ (wideN fam)) = true) := hid (decide_eq_true (by rw [← HF.out]; have q := hft; unfold fitN at q ⊢; rw [HS.out, HC.out] at q; exact q))
    clear hft HWn0
    have hn0 : (((wideN fam : Nat) : Int) == 0) = false := by have := HWn.out; simp; omega
    obtain ⟨sz, hsz⟩ : ∃ sz, wideN fam = sz := ⟨_, rfl⟩
    rw [hsz] at hn0 HFT hws ⊢
    have HSZ := hid hsz
    clear hsz
    go_wp2_with fail
    refine (sfit_at true ⟨fam, src, scp, []⟩ sz W3 (by omega) HFT.out).mono ?_
    rintro e W4 ⟨rfl, d4⟩
    have B4 := hid (grown_on B3.out d4)
    have KX := QX.out.below d4
    have KZ := QZ.out.below d4
    clear x0 x1 x2 x3 z0 z1 z2 z3 f0 f1 f2 f3
    have x0 := KX.cell (i := 0) rfl
    have x1 := KX.cell (i := 1) rfl
    have x2 := KX.cell (i := 2) rfl
    have x3 := KX.cell (i := 3) rfl
    have z0 := KZ.cell (i := 0) rfl
    have z1 := KZ.cell (i := 1) rfl
    have z2 := KZ.cell (i := 2) rfl
    have z3 := KZ.cell (i := 3) rfl
    have f0 := KZ.frozen 0
    have f1 := KZ.frozen 1
    have f2 := KZ.frozen 2
    have f3 := KZ.frozen 3
    have g3 := KX.frozen 3
    have QX4 := hid KX
    have QZ4 := hid KZ
    clear KX KZ d4
    obtain ⟨m, rfl⟩ : ∃ m : Nat, src = (m : Int) := ⟨src.toNat, by omega⟩
    have HTM : Hid (touchN (snOf b).src.toNat = touchN m) := hid (by rw [HS.out, Int.toNat_natCast])
    have hne : (((l - 4 : Nat) : Int) != ((touchN m : Nat) : Int)) = true := by rw [bne_iff_ne]; have := HTM.out; omega
    go_wp2_with fail
    refine (touched_at m W4 (by omega)).mono ?_
    rintro e w' ⟨rfl, rfl⟩
    obtain ⟨t, ht⟩ : ∃ t, touchN m = t := ⟨_, rfl⟩
    rw [ht] at hne ⊢
    have HT := hid ht
    clear ht
    go_wp2_with fail
    refine bodyPost_ret (results_dec _ _ w.heap.size _ _ _ _ _ rfl rfl (QZ4.out.put4 _ _ _ _)) rfl ?_
    exact DecP.bad HE.out (by decide) rfl (below_put4 B4.out (Nat.le_refl _) _ _ _ _)

set_option maxHeartbeats 4000000 in
set_option maxRecDepth 100000 in
theorem dec_len_b {bk off c l : Nat} (b : List Int) (w : World) (h : Bys w (some ⟨bk, off, none⟩) c b) (hl : b.length = l) (h4 : 4 ≤ b.length) (HWn0 : ¬ wideN (snOf b).fam = 0) (hft : fitN (snOf b) (wideN (snOf b).fam)) (hln : ¬ b.length - 4 = touchN (snOf b).src.toNat) (hc4' : Hid (c = 4)) :
    Calls Tryd.prog 32 #[.slice (some ⟨bk, off, none⟩) l c] w (DecP b w) := by
  have hlen : b.length ≤ 200000000000000 := h.2.1
  have hbs := h.2.2.1
  have hlc : b.length ≤ c := h.1
  have B0 := (Below.refl w.heap.size w).alloc (Nat.le_refl _) (.cells #[.int .i64 0, .int .i64 0, .int .i64 0, .slice none 0 0] 61)
  have Z0 := Bl.new 61 w #[.int .i64 0, .int .i64 0, .int .i64 0, .slice none 0 0]
  obtain ⟨w1, hw1⟩ : ∃ w1, w1 = w.alloc (.cells #[.int .i64 0, .int .i64 0, .int .i64 0, .slice none 0 0] 61) := ⟨_, rfl⟩
  have hsz1 : w1.heap.size = w.heap.size + 1 := by rw [hw1]; simp
  rw [← hw1] at B0 Z0
  have h1 := h.below B0
  obtain ⟨_, _, _, hd⟩ := h1
  rcases hd with hd | ⟨bk', off', e', hbk, hq⟩
  · rw [hd] at h4; simp at h4
  cases e'
  have HP : Hid (∀ u, Below w1.heap.size w1 u → Calls Tryd.prog 73 #[.slice (some ⟨bk, off, none⟩) 2 c] u fun e u' => e = .returned (.int .i64 (snOf b).fam) ∧ u = u') := by
    refine hid fun u hu => ?_
    have hk : ((b.take 2)).length = 2 := by rw [List.length_take]; omega
    refine number_at _ (b.take 2) u ?_ hk (by omega) rfl
    refine ⟨by omega, by omega, fun y hy => hbs y (List.mem_of_mem_take hy), Or.inr ⟨bk, off, rfl, Nat.lt_of_lt_of_le hbk hu.size, fun i hi => ?_⟩⟩
    rw [hu.cell (p := ⟨bk, off + i, none⟩) hbk, hq i (by omega), sub_take 2 i b (by omega)]
  have hc2 := hq 2 (by omega)
  have hc3 := hq 3 (by omega)
  have e2 : b.getD 2 0 = (snOf b).src := rfl
  have e3 : b.getD 3 0 = (snOf b).scp := rfl
  rw [e2] at hc2
  rw [e3] at hc3
  have r2 : 0 ≤ (snOf b).src ∧ (snOf b).src ≤ 255 := getD_byte hbs 2
  have r3 : 0 ≤ (snOf b).scp ∧ (snOf b).scp ≤ 255 := getD_byte hbs 3
  obtain ⟨r20, r21⟩ := r2
  obtain ⟨r30, r31⟩ := r3
  have HB0 := hid B0
  have HZ0 := hid Z0
  have HQ := hid hq
  have HW1 := hid hw1
  have j2 : (2 : Int) ≤ (c : Int) := by omega
  have j3 : (2 : Int) < (l : Int) := by omega
  have j4 : (3 : Int) < (l : Int) := by omega
  have j5 : ¬ (l : Int) < 4 := by omega
  have PK : Hid (∀ u, Below w1.heap.size w1 u → u.cell? ⟨bk, off + 2, none⟩ = some (.int .u8 (snOf b).src) ∧ u.cell? ⟨bk, off + 3, none⟩ = some (.int .u8 (snOf b).scp) ∧ Below w1.heap.size w1 u) :=
    hid fun u hu => ⟨by rw [hu.cell (p := ⟨bk, off + 2, none⟩) hbk]; exact hc2, by rw [hu.cell (p := ⟨bk, off + 3, none⟩) hbk]; exact hc3, hu⟩
  obtain ⟨fam, hfam⟩ : ∃ fam, (snOf b).fam = fam := ⟨_, rfl⟩
  obtain ⟨src, hsrc⟩ : ∃ src, (snOf b).src = src := ⟨_, rfl⟩
  obtain ⟨scp, hscp⟩ : ∃ scp, (snOf b).scp = scp := ⟨_, rfl⟩
  rw [hfam] at HP
  rw [hsrc, hscp] at PK
  rw [hsrc] at r20 r21
  rw [hscp] at r30 r31
  have wr2 := wrap_i64 src r20 (by omega)
  have wr3 := wrap_i64 scp r30 (by omega)
  have HF := hid hfam
  have HS := hid hsrc
  have HC := hid hscp
  clear hc2 hc3 e2 e3 hq B0 Z0 hfam hsrc hscp hw1
  go_enter Tryd.func32, Tryd.ntmps32
  go_wp2_with fail
  rw [← HW1.out]
  go_region_held3 (fun u => u.cell? ⟨bk, off + 2, none⟩ = some (.int .u8 src) ∧ u.cell? ⟨bk, off + 3, none⟩ = some (.int .u8 scp) ∧ Below w1.heap.size w1 u) (with_reducible (first | assumption | exact PK.out _ (Below.drew (Below.refl _ _)) | exact PK.out _ ((Below.refl _ _).alloc (Nat.le_refl _) _).drew))
    (first
      | (go_at_call 73; refine (HP.out _ ?_).mono ?_; (first | assumption | exact Below.drew (Below.refl _ _) | exact ((Below.refl _ _).alloc (Nat.le_refl _) _).drew); rintro e w' ⟨rfl, rfl⟩))
  all_goals
    have KX : Bl 61 (w1.alloc (.cells #[.int .i64 fam, .int .i64 src, .int .i64 scp, .slice none 0 0] 61)).drew (w.heap.size + 1) #[.int .i64 fam, .int .i64 src, .int .i64 scp, .slice none 0 0] := by rw [← hsz1]; exact (Bl.new 61 w1 _).drew
    have BW : Below w1.heap.size w1 (w1.alloc (.cells #[.int .i64 fam, .int .i64 src, .int .i64 scp, .slice none 0 0] 61)).drew := ((Below.refl _ w1).alloc (Nat.le_refl _) _).drew
    have KZ := HZ0.out.below BW
    have B3 := hid (grown_on HB0.out BW)
    have V3 := hid BW
    generalize (w1.alloc (.cells #[.int .i64 fam, .int .i64 src, .int .i64 scp, .slice none 0 0] 61)).drew = W3 at *
    have x0 := KX.cell (i := 0) rfl
    have x1 := KX.cell (i := 1) rfl
    have x2 := KX.cell (i := 2) rfl
    have x3 := KX.cell (i := 3) rfl
    have z0 := KZ.cell (i := 0) rfl
    have z1 := KZ.cell (i := 1) rfl
    have z2 := KZ.cell (i := 2) rfl
    have z3 := KZ.cell (i := 3) rfl
    have f0 := KZ.frozen 0
    have f1 := KZ.frozen 1
    have f2 := KZ.frozen 2
    have f3 := KZ.frozen 3
    have QX := hid KX
    have QZ := hid KZ
    clear KX KZ BW
    go_wp2_with fail
    refine (sizeOf_at fam W3).mono ?_
    rintro e w' ⟨rfl, rfl⟩
    have HE : Hid (decE b = 1) := hid (by unfold decE; rw [if_neg (by omega), if_neg (by intro q; rcases q with q | q; exact HWn0 q; exact q hft), if_pos hln])
    have HWn : Hid (¬ wideN fam = 0) := hid (by rw [← HF.out]; exact HWn0)
    have hws := wide_small fam
    have HFT : Hid (decide (fitN ⟨fam, src, scp, []⟩ (wideN fam)) = true) := hid (decide_eq_true (by rw [← HF.out]; have q := hft; unfold fitN at q ⊢; rw [HS.out, HC.out] at q; exact q))
    clear hft HWn0
    have hn0 : (((wideN fam : Nat) : Int) == 0) = false := by have := HWn.out; simp; omega
    obtain ⟨sz, hsz⟩ : ∃ sz, wideN fam = sz := ⟨_, rfl⟩
    rw [hsz] at hn0 HFT hws ⊢
    have HSZ := hid hsz
    clear hsz
    go_wp2_with fail
    refine (sfit_at true ⟨fam, src, scp, []⟩ sz W3 (by omega) HFT.out).mono ?_
    rintro e W4 ⟨rfl, d4⟩
    have B4 := hid (grown_on B3.out d4)
    have KX := QX.out.below d4
    have KZ := QZ.out.below d4
    clear x0 x1 x2 x3 z0 z1 z2 z3 f0 f1 f2 f3
    have x0 := KX.cell (i := 0) rfl
    have x1 := KX.cell (i := 1) rfl
    have x2 := KX.cell (i := 2) rfl
    have x3 := KX.cell (i := 3) rfl
    have z0 := KZ.cell (i := 0) rfl
    have z1 := KZ.cell (i := 1) rfl
    have z2 := KZ.cell (i := 2) rfl
    have z3 := KZ.cell (i := 3) rfl
    have f0 := KZ.frozen 0
    have f1 := KZ.frozen 1
    have f2 := KZ.frozen 2
    have f3 := KZ.frozen 3
    have g3 := KX.frozen 3
    have QX4 := hid KX
    have QZ4 := hid KZ
    clear KX KZ d4
    have hc4 := hc4'.out
    clear hc4'
    have hl4 : l = 4 := by omega
    subst hl4 hc4
    obtain ⟨m, rfl⟩ : ∃ m : Nat, src = (m : Int) := ⟨src.toNat, by omega⟩
    have HTM : Hid (touchN (snOf b).src.toNat = touchN m) := hid (by rw [HS.out, Int.toNat_natCast])
    have hne : ((0 : Int) != ((touchN m : Nat) : Int)) = true := by rw [bne_iff_ne]; have := HTM.out; omega
    go_wp2_with fail
    refine (touched_at m W4 (by omega)).mono ?_
    rintro e w' ⟨rfl, rfl⟩
    obtain ⟨t, ht⟩ : ∃ t, touchN m = t := ⟨_, rfl⟩
    rw [ht] at hne ⊢
    have HT := hid ht
    clear ht
    go_wp2_with fail
    refine bodyPost_ret (results_dec _ _ w.heap.size _ _ _ _ _ rfl rfl (QZ4.out.put4 _ _ _ _)) rfl ?_
    exact DecP.bad HE.out (by decide) rfl (below_put4 B4.out (Nat.le_refl _) _ _ _ _)

end Go.Proofs.YtgfplkhcihcagaaDoor
