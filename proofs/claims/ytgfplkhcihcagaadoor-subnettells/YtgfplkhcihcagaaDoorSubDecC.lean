/-
  The walk of subnet.Decode, its last ways.
-/
import Derived.Test.YtgfplkhcihcagaaDoorSubDecB
import Derived.Deep.Cut
namespace Go.Proofs.YtgfplkhcihcagaaDoor
open Go.RowKit Go.Deep

theorem sn_wide {b : List Int} (h : b.length - 4 ≤ wideN (snOf b).fam) : (snOf b).A.length = wideN (snOf b).fam := by
  show ((b.drop 4).take _ ++ List.replicate _ 0).length = _
  have e : (snOf b).fam = numN (b.take 2) := rfl
  rw [e] at h ⊢
  simp only [List.length_append, List.length_take, List.length_drop, List.length_replicate]
  omega

theorem bl_bys {w : World} {g c : Nat} {A : List Int} (k : Bl 5 w g (A.map (Value.int .u8)).toArray) (hb : ∀ x ∈ A, 0 ≤ x ∧ x ≤ 255) (hc : A.length ≤ c) (hl : A.length ≤ 200000000000000) : Bys w (some ⟨g, 0, none⟩) c A := by
  refine ⟨hc, hl, hb, Or.inr ⟨g, 0, rfl, k.lt, fun i hi => ?_⟩⟩
  rw [Nat.zero_add]
  refine k.cell ?_
  simp [List.getD_eq_getElem?_getD, List.getElem?_eq_getElem hi]

theorem Bys.put4 {w : World} {g c b : Nat} {A : List Int} (h : Bys w (some ⟨g, 0, none⟩) c A) (hg : ¬ g = b) (v0 v1 v2 v3 : Value) : Bys ((((w.setCell ⟨b, 0, none⟩ v0).setCell ⟨b, 1, none⟩ v1).setCell ⟨b, 2, none⟩ v2).setCell ⟨b, 3, none⟩ v3) (some ⟨g, 0, none⟩) c A := by
  obtain ⟨h1, h2, h3, h4⟩ := h
  refine ⟨h1, h2, h3, ?_⟩
  rcases h4 with h4 | ⟨g', o', e, hb, hq⟩
  · exact Or.inl h4
  · cases e
    refine Or.inr ⟨g, 0, rfl, by simpa using hb, fun i hi => ?_⟩
    have s0 : ∀ (u : World) (k : Nat) (v : Value), (u.setCell ⟨b, k, none⟩ v).cell? ⟨g, 0 + i, none⟩ = u.cell? ⟨g, 0 + i, none⟩ := fun u k v => by simp only [World.cell?, Below.heap_setCell u ⟨b, k, none⟩ v g hg]
    rw [s0, s0, s0, s0]
    exact hq i hi

theorem DecP.good {b A : List Int} {fam src scp : Int} {w w' : World} {g sz : Nat} {e : Ending} (h0 : decE b = 0) (hf : (snOf b).fam = fam) (hs : (snOf b).src = src) (hc : (snOf b).scp = scp) (hA : (snOf b).A = A) (hl : A.length = sz)
    (hk : Bys w' (some ⟨g, 0, none⟩) sz A) (hg : w.heap.size ≤ g) (hb : Below w.heap.size w w') (he : e = .returned (.tuple #[.agg #[.int .i64 fam, .int .i64 src, .int .i64 scp, .slice (some ⟨g, 0, none⟩) sz sz], .nilIface]) := by rfl) : DecP b w e w' := by
  unfold DecP
  rw [if_pos h0, hf, hs, hc, hA, hl]
  exact ⟨g, sz, he, hk, hg, hb⟩

set_option maxHeartbeats 4000000 in
set_option maxRecDepth 100000 in
theorem dec_last_a {bk off c l : Nat} (b : List Int) (w : World) (h : Bys w (some ⟨bk, off, none⟩) c b) (hl : b.length = l) (h4 : 4 ≤ b.length) (HWn0 : ¬ wideN (snOf b).fam = 0) (hft : fitN (snOf b) (wideN (snOf b).fam)) (hln : b.length - 4 = touchN (snOf b).src.toNat) (hc4 : ¬ c = 4) :
    Calls Tryd.prog 32 #[.slice (some ⟨bk, off, none⟩) l c] w (DecP b w) := by
  have hlen : b.length ≤ 200000000000000 := h.2.1
  have hbs := h.2.2.1
  have hlc : b.length ≤ c := h.1
  have B0 := (Below.refl w.heap.size w).alloc (Nat.le_refl _) (.cells #[.int .i64 0, .int .i64 0, .int .i64 0, .slice none 0 0] 61)
  have Z0 := Bl.new 61 w #[.int .i64 0, .int .i64 0, .int .i64 0, .slice none 0 0]
  obtain ⟨w1, hw1⟩ : ∃ w1, w1 = w.alloc (.cells #[.int .i64 0, .int .i64 0, .int .i64 0, .slice none 0 0] 61) := ⟨_, rfl⟩
  have hsz1 : w1.heap.size = w.heap.size + 1 := by rw [hw1]; simp
  rw [← hw1] at B0 Z0
  have h1 := h.below B0
  obtain ⟨_, _, _, hd⟩ := h1
  rcases hd with hd | ⟨bk', off', e', hbk, hq⟩
  · rw [hd] at h4; simp at h4
  cases e'
  have HP : Hid (∀ u, Below w1.heap.size w1 u → Calls Tryd.prog 73 #[.slice (some ⟨bk, off, none⟩) 2 c] u fun e u' => e = .returned (.int .i64 (snOf b).fam) ∧ u = u') := by
    refine hid fun u hu => ?_
    have hk : ((b.take 2)).length = 2 := by rw [List.length_take]; omega
    refine number_at _ (b.take 2) u ?_ hk (by omega) rfl
    refine ⟨by omega, by omega, fun y hy => hbs y (List.mem_of_mem_take hy), Or.inr ⟨bk, off, rfl, Nat.lt_of_lt_of_le hbk hu.size, fun i hi => ?_⟩⟩
    rw [hu.cell (p := ⟨bk, off + i, none⟩) hbk, hq i (by omega), sub_take 2 i b (by omega)]
  have hc2 := hq 2 (by omega)
  have hc3 := hq 3 (by omega)
  have e2 : b.getD 2 0 = (snOf b).src := rfl
  have e3 : b.getD 3 0 = (snOf b).scp := rfl
  rw [e2] at hc2
  rw [e3] at hc3
  have r2 : 0 ≤ (snOf b).src ∧ (snOf b).src ≤ 255 := getD_byte hbs 2
  have r3 : 0 ≤ (snOf b).scp ∧ (snOf b).scp ≤ 255 := getD_byte hbs 3
  obtain ⟨r20, r21⟩ := r2
  obtain ⟨r30, r31⟩ := r3
  have HB0 := hid B0
  have HZ0 := hid Z0
  have HQ := hid hq
  have HW1 := hid hw1
  have j2 : (2 : Int) ≤ (c : Int) := by omega
  have j3 : (2 : Int) < (l : Int) := by omega
  have j4 : (3 : Int) < (l : Int) := by omega
  have j5 : ¬ (l : Int) < 4 := by omega
  have PK : Hid (∀ u, Below w1.heap.size w1 u → u.cell? ⟨bk, off + 2, none⟩ = some (.int .u8 (snOf b).src) ∧ u.cell? ⟨bk, off + 3, none⟩ = some (.int .u8 (snOf b).scp) ∧ Below w1.heap.size w1 u) :=
    hid fun u hu => ⟨by rw [hu.cell (p := ⟨bk, off + 2, none⟩) hbk]; exact hc2, by rw [hu.cell (p := ⟨bk, off + 3, none⟩) hbk]; exact hc3, hu⟩
  obtain ⟨fam, hfam⟩ : ∃ fam, (snOf b).fam = fam := ⟨_, rfl⟩
  obtain ⟨src, hsrc⟩ : ∃ src, (snOf b).src = src := ⟨_, rfl⟩
  obtain ⟨scp, hscp⟩ : ∃ scp, (snOf b).scp = scp := ⟨_, rfl⟩
  rw [hfam] at HP
  rw [hsrc, hscp] at PK
  rw [hsrc] at r20 r21
  rw [hscp] at r30 r31
  have wr2 := wrap_i64 src r20 (by omega)
  have wr3 := wrap_i64 scp r30 (by omega)
  have HF := hid hfam
  have HS := hid hsrc
  have HC := hid hscp
  clear hc2 hc3 e2 e3 hq B0 Z0 hfam hsrc hscp hw1
  go_enter Tryd.func32, Tryd.ntmps32
  go_wp2_with fail
  rw [← HW1.out]
  go_region_held3 (fun u => u.cell? ⟨bk, off + 2, none⟩ = some (.int .u8 src) ∧ u.cell? ⟨bk, off + 3, none⟩ = some (.int .u8 scp) ∧ Below w1.heap.size w1 u) (with_reducible (first | assumption | exact PK.out _ (Below.drew (Below.refl _ _)) | exact PK.out _ ((Below.refl _ _).alloc (Nat.le_refl _) _).drew))
    (first
      | (go_at_call 73; refine (HP.out _ ?_).mono ?_; (first | assumption | exact Below.drew (Below.refl _ _) | exact ((Below.refl _ _).alloc (Nat.le_refl _) _).drew); rintro e w' ⟨rfl, rfl⟩))
  all_goals
    have KX : Bl 61 (w1.alloc (.cells #[.int .i64 fam, .int .i64 src, .int .i64 scp, .slice none 0 0] 61)).drew (w.heap.size + 1) #[.int .i64 fam, .int .i64 src, .int .i64 scp, .slice none 0 0] := by rw [← hsz1]; exact (Bl.new 61 w1 _).drew
    have BW : Below w1.heap.size w1 (w1.alloc (.cells #[.int .i64 fam, .int .i64 src, .int .i64 scp, .slice none 0 0] 61)).drew := ((Below.refl _ w1).alloc (Nat.le_refl _) _).drew
    have KZ := HZ0.out.below BW
    have B3 := hid (grown_on HB0.out BW)
    have V3 := hid BW
    generalize (w1.alloc (.cells #[.int .i64 fam, .int .i64 src, .int .i64 scp, .slice none 0 0] 61)).drew = W3 at *
    have x0 := KX.cell (i := 0) rfl
    have x1 := KX.cell (i := 1) rfl
    have x2 := KX.cell (i := 2) rfl
    have x3 := KX.cell (i := 3) rfl
    have z0 := KZ.cell (i := 0) rfl
    have z1 := KZ.cell (i := 1) rfl
    have z2 := KZ.cell (i := 2) rfl
    have z3 := KZ.cell (i := 3) rfl
    have f0 := KZ.frozen 0
    have f1 := KZ.frozen 1
    have f2 := KZ.frozen 2
    have f3 := KZ.frozen 3
    have QX := hid KX
    have QZ := hid KZ
    clear KX KZ BW
    go_wp2_with fail
    refine (sizeOf_at fam W3).mono ?_
    rintro e w' ⟨rfl, rfl⟩
    have HE : Hid (decE b = if ¬ (snOf b).A = maskN (snOf b).src.toNat (snOf b).A then 1 else 0) := hid (by unfold decE; rw [if_neg (by omega), if_neg (by intro q; rcases q with q | q; exact HWn0 q; exact q hft), if_neg (by simpa using hln)])
    have HWn : Hid (¬ wideN fam = 0) := hid (by rw [← HF.out]; exact HWn0)
    have hws := wide_small fam
    have HFT : Hid (decide (fitN ⟨fam, src, scp, []⟩ (wideN fam)) = true) := hid (decide_eq_true (by rw [← HF.out]; have q := hft; unfold fitN at q ⊢; rw [HS.out, HC.out] at q; exact q))
    clear hft HWn0
    have hn0 : (((wideN fam : Nat) : Int) == 0) = false := by have := HWn.out; simp; omega
    obtain ⟨sz, hsz⟩ : ∃ sz, wideN fam = sz := ⟨_, rfl⟩
    rw [hsz] at hn0 HFT hws ⊢
    have HSZ := hid hsz
    clear hsz
    go_wp2_with fail
    refine (sfit_at true ⟨fam, src, scp, []⟩ sz W3 (by omega) HFT.out).mono ?_
    rintro e W4 ⟨rfl, d4⟩
    have B4 := hid (grown_on B3.out d4)
    have KX := QX.out.below d4
    have KZ := QZ.out.below d4
    clear x0 x1 x2 x3 z0 z1 z2 z3 f0 f1 f2 f3
    have x0 := KX.cell (i := 0) rfl
    have x1 := KX.cell (i := 1) rfl
    have x2 := KX.cell (i := 2) rfl
    have x3 := KX.cell (i := 3) rfl
    have z0 := KZ.cell (i := 0) rfl
    have z1 := KZ.cell (i := 1) rfl
    have z2 := KZ.cell (i := 2) rfl
    have z3 := KZ.cell (i := 3) rfl
    have f0 := KZ.frozen 0
    have f1 := KZ.frozen 1
    have f2 := KZ.frozen 2
    have f3 := KZ.frozen 3
    have g3 := KX.frozen 3
    have QX4 := hid KX
    have QZ4 := hid KZ
    clear KX KZ d4
    obtain ⟨m, rfl⟩ : ∃ m : Nat, src = (m : Int) := ⟨src.toNat, by omega⟩
    have HTM : Hid (touchN (snOf b).src.toNat = touchN m) := hid (by rw [HS.out, Int.toNat_natCast])
    have hne : (((l - 4 : Nat) : Int) != ((touchN m : Nat) : Int)) = false := by rw [bne_eq_false_iff_eq]; have := HTM.out; omega
    go_wp2_with fail
    refine (touched_at m W4 (by omega)).mono ?_
    rintro e w' ⟨rfl, rfl⟩
    obtain ⟨t, ht⟩ : ∃ t, touchN m = t := ⟨_, rfl⟩
    rw [ht] at hne ⊢
    have HT := hid ht
    clear ht
    obtain ⟨i0, hi, hz0, hz1, hz2⟩ := info_of_byte
    go_wp2_with (at_make; refine wpList_make_full _ rfl _ _ 22 rfl W4.heap.size 5 i0 (.int .u8 0) 1 Tryd.underlying22 hi hz0 hz1 _ _ _ _ sz rfl rfl rfl rfl (by rw [hz2]; omega) (by unfold maxLen; omega) (Nat.le_refl _) ?_)
    intro W5 hown5 hg5
    obtain ⟨L, hC, hL⟩ : ∃ L : List Value, Bl 5 W5 W4.heap.size L.toArray ∧ Hid (L = (List.replicate sz (0 : Int)).map (Value.int .u8)) := by
      rcases hown5.2 with ⟨e, _⟩ | ⟨g, cap, cur, e, _, hg, _, _, hcs, htk⟩
      · cases e
      · cases e
        refine ⟨_, ?_, hid rfl⟩
        rw [List.take_of_length_le (by simpa using Nat.le_of_eq hcs)] at htk
        have htk2 : cur.toList = (madeCells #[Value.int .u8 0] sz).toList := by simpa using htk
        rw [zeros_made] at htk2
        have : cur = ((List.replicate sz (0 : Int)).map (Value.int .u8)).toArray := Array.ext' htk2
        rw [← this]
        exact hg
    have D5 := (Below.refl W4.heap.size W4).grown hg5 (Nat.le_refl _) (fun k hk => by cases hk)
    have B5 := hid (grown_on B4.out D5)
    have KX := QX4.out.below D5
    have KZ := QZ4.out.below D5
    have hlx := KX.lt
    clear x0 x1 x2 x3 z0 z1 z2 z3 f0 f1 f2 f3 g3 hown5 hg5
    have x3 := KX.cell (i := 3) rfl
    have g3 := KX.frozen 3
    have QX5 := hid KX
    have QZ5 := hid KZ
    have KC := hid hC
    have hWX : ¬ W4.heap.size = w.heap.size + 1 := by have := QX4.out.lt; omega
    have hWZ : ¬ w.heap.size = w.heap.size + 1 := by omega
    have hltX0 : w.heap.size + 1 < W4.heap.size := QX4.out.lt
    clear KX KZ hC QX4 QZ4 D5
    have hbkw : bk < w.heap.size := by
      rcases h.2.2.2 with e | ⟨b', o', e, hb', _⟩
      · rw [e] at h4; simp at h4
      · cases e; exact hb'
    have QX6 : Hid (Bl 61 (W5.setCell ⟨w.heap.size + 1, 3, none⟩ (.slice (some ⟨W4.heap.size, 0, none⟩) sz sz)) (w.heap.size + 1) #[.int .i64 fam, .int .i64 (m : Int), .int .i64 scp, .slice (some ⟨W4.heap.size, 0, none⟩) sz sz]) := hid (QX5.out.set 3 _)
    have QZ6 := hid (QZ5.out.far (p := ⟨w.heap.size + 1, 3, none⟩) hWZ (.slice (some ⟨W4.heap.size, 0, none⟩) sz sz))
    have KC6 := hid (KC.out.far (p := ⟨w.heap.size + 1, 3, none⟩) hWX (.slice (some ⟨W4.heap.size, 0, none⟩) sz sz))
    have B6 := hid (B5.out.setCell (p := ⟨w.heap.size + 1, 3, none⟩) (by simp) (.slice (some ⟨W4.heap.size, 0, none⟩) sz sz))
    obtain ⟨W6, hW6⟩ : ∃ W6, W6 = W5.setCell ⟨w.heap.size + 1, 3, none⟩ (.slice (some ⟨W4.heap.size, 0, none⟩) sz sz) := ⟨_, rfl⟩
    rw [← hW6] at QX6 QZ6 KC6 B6
    have HW6 := hid hW6
    obtain ⟨X, hX⟩ : ∃ X, (b.drop 4).map (Value.int .u8) = X := ⟨_, rfl⟩
    have hXl : X.length = l - 4 := by rw [← hX, List.length_map, List.length_drop]; omega
    have hle : l - 4 ≤ sz := by
      have h1 := HT.out
      have h2 := HTM.out
      have h3 : touchN m ≤ sz := touch_le (by have := (of_decide_eq_true HFT.out).1; simp only at this; omega)
      omega
    have HLl : Hid (L.length = sz) := hid (by rw [hL.out]; simp)
    have HXm : Hid (X.length = Nat.min (l - 4) sz) := hid (by rw [hXl]; exact (Nat.min_eq_left hle).symm)
    have HXf : Hid (0 + X.length ≤ L.length) := hid (by rw [HLl.out, hXl]; omega)
    have hsrc : Hid (0 < X.length → (some (⟨W4.heap.size, 0, none⟩ : Addr)) = some ⟨W4.heap.size, 0, none⟩ ∧ ∃ ad, (some (⟨bk, off + 4, none⟩ : Addr)) = some ad ∧ ∀ j v, X[j]? = some v → W6.cell? (ad.add j) = some v) := by
      refine hid ?_
      intro _
      refine ⟨rfl, _, rfl, fun j v hj => ?_⟩
      have hjl : j < l - 4 := by
        rcases Nat.lt_or_ge j (l - 4) with q | q
        · exact q
        · rw [List.getElem?_eq_none (by omega)] at hj; cases hj
      rw [show (⟨bk, off + 4, none⟩ : Addr).add j = ⟨bk, off + (4 + j), none⟩ by simp [Addr.add, Nat.add_assoc], B6.out.cell (p := ⟨bk, off + (4 + j), none⟩) hbkw]
      rcases h.2.2.2 with e | ⟨b', o', e, hb', hq'⟩
      · rw [e] at h4; simp at h4
      · cases e
        rw [hq' (4 + j) (by omega), ← hj, ← hX, List.getElem?_map, List.getElem?_drop, List.getD_eq_getElem?_getD, List.getElem?_eq_getElem (by omega)]
        rfl
    have hX1 : Hid (∀ v ∈ X, v.oneCell' = true) := by
      refine hid ?_
      rw [← hX]
      intro v hv
      obtain ⟨y, _, rfl⟩ := List.mem_map.1 hv
      rfl
    have HA : Hid (splice L 0 X = (snOf b).A.map (Value.int .u8)) := by
      refine hid ?_
      have e1 : (snOf b).A = (b.drop 4).take (wideN (snOf b).fam) ++ List.replicate (wideN (snOf b).fam - (b.length - 4)) 0 := rfl
      rw [e1, HF.out, HSZ.out, List.take_of_length_le (by rw [List.length_drop]; omega), hL.out, ← hX]
      unfold splice
      simp only [List.take_zero, List.nil_append, Nat.zero_add, List.map_append, List.map_replicate, List.length_map, List.length_drop, List.drop_replicate]
    have HX := hid hX
    have HSL : Hid ((snOf b).A.length = sz) := hid (by rw [← HSZ.out, ← HF.out]; exact sn_wide (by rw [HF.out, HSZ.out]; omega))
    have hszb : (Tryd.prog.info? 5).map (·.size) = some 1 := by rw [hi]; simp [hz1]
    have HRF : Hid (Below W4.heap.size W6 W6) := hid (Below.refl _ _)
    have hWW : W4.heap.size ≤ W4.heap.size := Nat.le_refl _
    clear hX hXl hi hz0 hz1 hz2 KC QX5 QZ5 B5 hL hW6
    have y3 := QX6.out.cell (i := 3) rfl
    go_upto_region 11 with fail
    rw [← HW6.out]
    clear x3 g3
    go_wp2_with (refine wpList_copy_splice rfl (.tmp 51) (.tmp 52) 22 22 rfl 5 Tryd.underlying22 hszb _ _ _ _ _ _ rfl rfl W4.heap.size 0 L 5 KC6.out X HXm.out hsrc.out HXf.out hX1.out W4.heap.size W6 HRF.out hWW ?_)
    intro W7 HG7 hB7
    have KA : Hid (Bl 5 W7 W4.heap.size ((snOf b).A.map (Value.int .u8)).toArray) := hid (by rw [← HA.out]; exact HG7.out)
    have hltX : w.heap.size + 1 < W4.heap.size := hltX0
    have QX7 := hid (QX6.out.under hltX hB7)
    have QZ7 := hid (QZ6.out.under (by omega) hB7)
    have B7 : Hid (Below w.heap.size w W7) := hid (B6.out.trans (hB7.mono (by omega)))
    clear HG7 hB7 KC6 HXm hsrc HXf hX1 HA HRF y3 QX6 QZ6 B6 HX HW6
    obtain ⟨A, hA⟩ : ∃ A, (snOf b).A = A := ⟨_, rfl⟩
    have HAl : Hid (A.length = sz) := hid (by rw [← hA]; exact HSL.out)
    have HAb : Hid (∀ x ∈ A, 0 ≤ x ∧ x ≤ 255) := hid (by rw [← hA]; exact sn_bytes hbs)
    rw [hA] at KA
    have HAA := hid hA
    have hml : Hid (m ≤ 8 * A.length) := hid (by rw [HAl.out]; have := (of_decide_eq_true HFT.out).1; simp only at this; omega)
    obtain ⟨r, hr⟩ : ∃ r, decide (A = maskN m A) = r := ⟨_, rfl⟩
    have HR := hid hr
    have hAs : Hid (∀ u, Below W7.heap.size W7 u → Bys u (some ⟨W4.heap.size, 0, none⟩) sz A) := hid fun u hu => bl_bys (KA.out.below hu) HAb.out (by rw [HAl.out]; exact Nat.le_refl _) (by rw [HAl.out]; omega)
    have M1 : Hid (∀ u, Below W7.heap.size W7 u → Calls Tryd.prog 66 #[.slice (some ⟨W4.heap.size, 0, none⟩) sz sz, .int .i64 (m : Int)] u fun e u' => ∃ g, e = .returned (.slice (some ⟨g, 0, none⟩) sz sz) ∧ Bl 5 u' g ((maskN m A).map (Value.int .u8)).toArray ∧ Below W7.heap.size W7 u') := by
      refine hid fun u hu => (masked_any m A u (hAs.out u hu) (fun q => by cases q) hml.out HAl.out).mono ?_
      rintro e u' ⟨rfl, k, d⟩
      exact ⟨u.heap.size, by rw [HAl.out], k, hu.trans (d.mono hu.size)⟩
    have M2 : Hid (∀ (u : World) (g : Nat), Below W7.heap.size W7 u → Bl 5 u g ((maskN m A).map (Value.int .u8)).toArray → Calls Tryd.prog 71 #[.slice (some ⟨W4.heap.size, 0, none⟩) sz sz, .slice (some ⟨g, 0, none⟩) sz sz] u fun e u' => e = .returned (.bool r) ∧ u = u') := by
      refine hid fun u g hu k => ?_
      refine bequal_at r A (maskN m A) u HAb.out (maskN_bytes m HAb.out) (fun i hi => ?_) (fun i hi => ?_) HAl.out (by rw [maskN_len, HAl.out]) HR.out
      · rw [Nat.zero_add]; refine (KA.out.below hu).cell ?_; simp [List.getD_eq_getElem?_getD, List.getElem?_eq_getElem hi]
      · rw [Nat.zero_add]; refine k.cell ?_; simp [List.getD_eq_getElem?_getD, List.getElem?_eq_getElem hi]
    have PK2 : Hid (∀ u, Below W7.heap.size W7 u → u.cell? ⟨w.heap.size + 1, 1, none⟩ = some (.int .i64 (m : Int)) ∧ u.cell? ⟨w.heap.size + 1, 3, none⟩ = some (.slice (some ⟨W4.heap.size, 0, none⟩) sz sz) ∧ Below W7.heap.size W7 u) :=
      hid fun u hu => ⟨(QX7.out.below hu).cell (i := 1) rfl, (QX7.out.below hu).cell (i := 3) rfl, hu⟩
    clear hr hA PK HP HSL
    go_upto_region 12 with fail
    go_region_held3 (fun u => u.cell? ⟨w.heap.size + 1, 1, none⟩ = some (.int .i64 (m : Int)) ∧ u.cell? ⟨w.heap.size + 1, 3, none⟩ = some (.slice (some ⟨W4.heap.size, 0, none⟩) sz sz) ∧ Below W7.heap.size W7 u) (with_reducible (first | assumption | exact PK2.out _ (Below.drew (Below.refl _ _)) | exact PK2.out _ HB8))
      (first
        | (go_at_call 66; refine (M1.out _ ?_).mono ?_; (first | assumption | exact Below.drew (Below.refl _ _)); rintro e W8 ⟨g8, rfl, K8, HB8⟩)
        | (go_at_call 71; refine (M2.out _ _ HB8 K8).mono ?_; rintro e W9 ⟨rfl, rfl⟩))
    all_goals
      have QX8 := QX7.out.below HB8
      have QZ8 := QZ7.out.below HB8
      have B8 := hid (grown_on B7.out HB8)
      have KA8 := hid (hAs.out _ HB8)
      have y0 := QX8.cell (i := 0) rfl
      have y1 := QX8.cell (i := 1) rfl
      have y2 := QX8.cell (i := 2) rfl
      have y3 := QX8.cell (i := 3) rfl
      have z0 := QZ8.cell (i := 0) rfl
      have z1 := QZ8.cell (i := 1) rfl
      have z2 := QZ8.cell (i := 2) rfl
      have z3 := QZ8.cell (i := 3) rfl
      have f0 := QZ8.frozen 0
      have f1 := QZ8.frozen 1
      have f2 := QZ8.frozen 2
      have f3 := QZ8.frozen 3
      have HZ8 := hid QZ8
      clear QX8 QZ8 QX7 QZ7 K8 HB8 PK2 M1 M2 hAs
      cases r
      · go_wp2_with fail
        refine bodyPost_ret (results_dec _ _ w.heap.size _ _ _ _ _ rfl rfl (HZ8.out.put4 _ _ _ _)) rfl ?_
        refine DecP.bad (k := 1) ?_ (by decide) rfl (below_put4 B8.out (Nat.le_refl _) _ _ _ _)
        rw [HE.out, HAA.out, HS.out, Int.toNat_natCast, if_pos (of_decide_eq_false HR.out)]
      · go_wp2_with fail
        refine bodyPost_ret (results_dec _ _ w.heap.size _ _ _ _ _ rfl rfl (HZ8.out.put4 _ _ _ _)) rfl ?_
        have hE0 : decE b = 0 := by rw [HE.out, HAA.out, HS.out, Int.toNat_natCast, if_neg (by simpa using of_decide_eq_true HR.out)]
        refine DecP.good hE0 HF.out HS.out HC.out HAA.out HAl.out (KA8.out.put4 (by omega) _ _ _ _) (by omega) (below_put4 B8.out (Nat.le_refl _) _ _ _ _)

set_option maxHeartbeats 4000000 in
set_option maxRecDepth 100000 in
theorem dec_last_b {bk off c l : Nat} (b : List Int) (w : World) (h : Bys w (some ⟨bk, off, none⟩) c b) (hl : b.length = l) (h4 : 4 ≤ b.length) (HWn0 : ¬ wideN (snOf b).fam = 0) (hft : fitN (snOf b) (wideN (snOf b).fam)) (hln : b.length - 4 = touchN (snOf b).src.toNat) (hc4' : Hid (c = 4)) :
    Calls Tryd.prog 32 #[.slice (some ⟨bk, off, none⟩) l c] w (DecP b w) := by
  have hlen : b.length ≤ 200000000000000 := h.2.1
  have hbs := h.2.2.1
  have hlc : b.length ≤ c := h.1
  have B0 := (Below.refl w.heap.size w).alloc (Nat.le_refl _) (.cells #[.int .i64 0, .int .i64 0, .int .i64 0, .slice none 0 0] 61)
  have Z0 := Bl.new 61 w #[.int .i64 0, .int .i64 0, .int .i64 0, .slice none 0 0]
  obtain ⟨w1, hw1⟩ : ∃ w1, w1 = w.alloc (.cells #[.int .i64 0, .int .i64 0, .int .i64 0, .slice none 0 0] 61) := ⟨_, rfl⟩
  have hsz1 : w1.heap.size = w.heap.size + 1 := by rw [hw1]; simp
  rw [← hw1] at B0 Z0
  have h1 := h.below B0
  obtain ⟨_, _, _, hd⟩ := h1
  rcases hd with hd | ⟨bk', off', e', hbk, hq⟩
  · rw [hd] at h4; simp at h4
  cases e'
  have HP : Hid (∀ u, Below w1.heap.size w1 u → Calls Tryd.prog 73 #[.slice (some ⟨bk, off, none⟩) 2 c] u fun e u' => e = .returned (.int .i64 (snOf b).fam) ∧ u = u') := by
    refine hid fun u hu => ?_
    have hk : ((b.take 2)).length = 2 := by rw [List.length_take]; omega
    refine number_at _ (b.take 2) u ?_ hk (by omega) rfl
    refine ⟨by omega, by omega, fun y hy => hbs y (List.mem_of_mem_take hy), Or.inr ⟨bk, off, rfl, Nat.lt_of_lt_of_le hbk hu.size, fun i hi => ?_⟩⟩
    rw [hu.cell (p := ⟨bk, off + i, none⟩) hbk, hq i (by omega), sub_take 2 i b (by omega)]
  have hc2 := hq 2 (by omega)
  have hc3 := hq 3 (by omega)
  have e2 : b.getD 2 0 = (snOf b).src := rfl
  have e3 : b.getD 3 0 = (snOf b).scp := rfl
  rw [e2] at hc2
  rw [e3] at hc3
  have r2 : 0 ≤ (snOf b).src ∧ (snOf b).src ≤ 255 := getD_byte hbs 2
  have r3 : 0 ≤ (snOf b).scp ∧ (snOf b).scp ≤ 255 := getD_byte hbs 3
  obtain ⟨r20, r21⟩ := r2
  obtain ⟨r30, r31⟩ := r3
  have HB0 := hid B0
  have HZ0 := hid Z0
  have HQ := hid hq
  have HW1 := hid hw1
  have j2 : (2 : Int) ≤ (c : Int) := by omega
  have j3 : (2 : Int) < (l : Int) := by omega
  have j4 : (3 : Int) < (l : Int) := by omega
  have j5 : ¬ (l : Int) < 4 := by omega
  have PK : Hid (∀ u, Below w1.heap.size w1 u → u.cell? ⟨bk, off + 2, none⟩ = some (.int .u8 (snOf b).src) ∧ u.cell? ⟨bk, off + 3, none⟩ = some (.int .u8 (snOf b).scp) ∧ Below w1.heap.size w1 u) :=
    hid fun u hu => ⟨by rw [hu.cell (p := ⟨bk, off + 2, none⟩) hbk]; exact hc2, by rw [hu.cell (p := ⟨bk, off + 3, none⟩) hbk]; exact hc3, hu⟩
  obtain ⟨fam, hfam⟩ : ∃ fam, (snOf b).fam = fam := ⟨_, rfl⟩
  obtain ⟨src, hsrc⟩ : ∃ src, (snOf b).src = src := ⟨_, rfl⟩
  obtain ⟨scp, hscp⟩ : ∃ scp, (snOf b).scp = scp := ⟨_, rfl⟩
  rw [hfam] at HP
  rw [hsrc, hscp] at PK
  rw [hsrc] at r20 r21
  rw [hscp] at r30 r31
  have wr2 := wrap_i64 src r20 (by omega)
  have wr3 := wrap_i64 scp r30 (by omega)
  have HF := hid hfam
  have HS := hid hsrc
  have HC := hid hscp
  clear hc2 hc3 e2 e3 hq B0 Z0 hfam hsrc hscp hw1
  go_enter Tryd.func32, Tryd.ntmps32
  go_wp2_with fail
  rw [← HW1.out]
  go_region_held3 (fun u => u.cell? ⟨bk, off + 2, none⟩ = some (.int .u8 src) ∧ u.cell? ⟨bk, off + 3, none⟩ = some (.int .u8 scp) ∧ Below w1.heap.size w1 u) (with_reducible (first | assumption | exact PK.out _ (Below.drew (Below.refl _ _)) | exact PK.out _ ((Below.refl _ _).alloc (Nat.le_refl _) _).drew))
    (first
      | (go_at_call 73; refine (HP.out _ ?_).mono ?_; (first | assumption | exact Below.drew (Below.refl _ _) | exact ((Below.refl _ _).alloc (Nat.le_refl _) _).drew); rintro e w' ⟨rfl, rfl⟩))
  all_goals
    have KX : Bl 61 (w1.alloc (.cells #[.int .i64 fam, .int .i64 src, .int .i64 scp, .slice none 0 0] 61)).drew (w.heap.size + 1) #[.int .i64 fam, .int .i64 src, .int .i64 scp, .slice none 0 0] := by rw [← hsz1]; exact (Bl.new 61 w1 _).drew
    have BW : Below w1.heap.size w1 (w1.alloc (.cells #[.int .i64 fam, .int .i64 src, .int .i64 scp, .slice none 0 0] 61)).drew := ((Below.refl _ w1).alloc (Nat.le_refl _) _).drew
    have KZ := HZ0.out.below BW
    have B3 := hid (grown_on HB0.out BW)
    have V3 := hid BW
    generalize (w1.alloc (.cells #[.int .i64 fam, .int .i64 src, .int .i64 scp, .slice none 0 0] 61)).drew = W3 at *
    have x0 := KX.cell (i := 0) rfl
    have x1 := KX.cell (i := 1) rfl
    have x2 := KX.cell (i := 2) rfl
    have x3 := KX.cell (i := 3) rfl
    have z0 := KZ.cell (i := 0) rfl
    have z1 := KZ.cell (i := 1) rfl
    have z2 := KZ.cell (i := 2) rfl
    have z3 := KZ.cell (i := 3) rfl
    have f0 := KZ.frozen 0
    have f1 := KZ.frozen 1
    have f2 := KZ.frozen 2
    have f3 := KZ.frozen 3
    have QX := hid KX
    have QZ := hid KZ
    clear KX KZ BW
    go_wp2_with fail
    refine (sizeOf_at fam W3).mono ?_
    rintro e w' ⟨rfl, rfl⟩
    have HE : Hid (decE b = if ¬ (snOf b).A = maskN (snOf b).src.toNat (snOf b).A then 1 else 0) := hid (by unfold decE; rw [if_neg (by omega), if_neg (by intro q; rcases q with q | q; exact HWn0 q; exact q hft), if_neg (by simpa using hln)])
    have HWn : Hid (¬ wideN fam = 0) := hid (by rw [← HF.out]; exact HWn0)
    have hws := wide_small fam
    have HFT : Hid (decide (fitN ⟨fam, src, scp, []⟩ (wideN fam)) = true) := hid (decide_eq_true (by rw [← HF.out]; have q := hft; unfold fitN at q ⊢; rw [HS.out, HC.out] at q; exact q))
    clear hft HWn0
    have hn0 : (((wideN fam : Nat) : Int) == 0) = false := by have := HWn.out; simp; omega
    obtain ⟨sz, hsz⟩ : ∃ sz, wideN fam = sz := ⟨_, rfl⟩
    rw [hsz] at hn0 HFT hws ⊢
    have HSZ := hid hsz
    clear hsz
    go_wp2_with fail
    refine (sfit_at true ⟨fam, src, scp, []⟩ sz W3 (by omega) HFT.out).mono ?_
    rintro e W4 ⟨rfl, d4⟩
    have B4 := hid (grown_on B3.out d4)
    have KX := QX.out.below d4
    have KZ := QZ.out.below d4
    clear x0 x1 x2 x3 z0 z1 z2 z3 f0 f1 f2 f3
    have x0 := KX.cell (i := 0) rfl
    have x1 := KX.cell (i := 1) rfl
    have x2 := KX.cell (i := 2) rfl
    have x3 := KX.cell (i := 3) rfl
    have z0 := KZ.cell (i := 0) rfl
    have z1 := KZ.cell (i := 1) rfl
    have z2 := KZ.cell (i := 2) rfl
    have z3 := KZ.cell (i := 3) rfl
    have f0 := KZ.frozen 0
    have f1 := KZ.frozen 1
    have f2 := KZ.frozen 2
    have f3 := KZ.frozen 3
    have g3 := KX.frozen 3
    have QX4 := hid KX
    have QZ4 := hid KZ
    clear KX KZ d4
    have hc4 := hc4'.out
    clear hc4'
    have hl4 : l = 4 := by omega
    subst hl4 hc4
    obtain ⟨m, rfl⟩ : ∃ m : Nat, src = (m : Int) := ⟨src.toNat, by omega⟩
    have HTM : Hid (touchN (snOf b).src.toNat = touchN m) := hid (by rw [HS.out, Int.toNat_natCast])
    have hne : ((0 : Int) != ((touchN m : Nat) : Int)) = false := by rw [bne_eq_false_iff_eq]; have := HTM.out; omega
    go_wp2_with fail
    refine (touched_at m W4 (by omega)).mono ?_
    rintro e w' ⟨rfl, rfl⟩
    obtain ⟨t, ht⟩ : ∃ t, touchN m = t := ⟨_, rfl⟩
    rw [ht] at hne ⊢
    have HT := hid ht
    clear ht
    obtain ⟨i0, hi, hz0, hz1, hz2⟩ := info_of_byte
    go_wp2_with (at_make; refine wpList_make_full _ rfl _ _ 22 rfl W4.heap.size 5 i0 (.int .u8 0) 1 Tryd.underlying22 hi hz0 hz1 _ _ _ _ sz rfl rfl rfl rfl (by rw [hz2]; omega) (by unfold maxLen; omega) (Nat.le_refl _) ?_)
    intro W5 hown5 hg5
    obtain ⟨L, hC, hL⟩ : ∃ L : List Value, Bl 5 W5 W4.heap.size L.toArray ∧ Hid (L = (List.replicate sz (0 : Int)).map (Value.int .u8)) := by
      rcases hown5.2 with ⟨e, _⟩ | ⟨g, cap, cur, e, _, hg, _, _, hcs, htk⟩
      · cases e
      · cases e
        refine ⟨_, ?_, hid rfl⟩
        rw [List.take_of_length_le (by simpa using Nat.le_of_eq hcs)] at htk
        have htk2 : cur.toList = (madeCells #[Value.int .u8 0] sz).toList := by simpa using htk
        rw [zeros_made] at htk2
        have : cur = ((List.replicate sz (0 : Int)).map (Value.int .u8)).toArray := Array.ext' htk2
        rw [← this]
        exact hg
    have D5 := (Below.refl W4.heap.size W4).grown hg5 (Nat.le_refl _) (fun k hk => by cases hk)
    have B5 := hid (grown_on B4.out D5)
    have KX := QX4.out.below D5
    have KZ := QZ4.out.below D5
    have hlx := KX.lt
    clear x0 x1 x2 x3 z0 z1 z2 z3 f0 f1 f2 f3 g3 hown5 hg5
    have x3 := KX.cell (i := 3) rfl
    have g3 := KX.frozen 3
    have QX5 := hid KX
    have QZ5 := hid KZ
    have KC := hid hC
    have hWX : ¬ W4.heap.size = w.heap.size + 1 := by have := QX4.out.lt; omega
    have hWZ : ¬ w.heap.size = w.heap.size + 1 := by omega
    have hltX0 : w.heap.size + 1 < W4.heap.size := QX4.out.lt
    clear KX KZ hC QX4 QZ4 D5
    have hbkw : bk < w.heap.size := by
      rcases h.2.2.2 with e | ⟨b', o', e, hb', _⟩
      · rw [e] at h4; simp at h4
      · cases e; exact hb'
    have QX6 : Hid (Bl 61 (W5.setCell ⟨w.heap.size + 1, 3, none⟩ (.slice (some ⟨W4.heap.size, 0, none⟩) sz sz)) (w.heap.size + 1) #[.int .i64 fam, .int .i64 (m : Int), .int .i64 scp, .slice (some ⟨W4.heap.size, 0, none⟩) sz sz]) := hid (QX5.out.set 3 _)
    have QZ6 := hid (QZ5.out.far (p := ⟨w.heap.size + 1, 3, none⟩) hWZ (.slice (some ⟨W4.heap.size, 0, none⟩) sz sz))
    have KC6 := hid (KC.out.far (p := ⟨w.heap.size + 1, 3, none⟩) hWX (.slice (some ⟨W4.heap.size, 0, none⟩) sz sz))
    have B6 := hid (B5.out.setCell (p := ⟨w.heap.size + 1, 3, none⟩) (by simp) (.slice (some ⟨W4.heap.size, 0, none⟩) sz sz))
    obtain ⟨W6, hW6⟩ : ∃ W6, W6 = W5.setCell ⟨w.heap.size + 1, 3, none⟩ (.slice (some ⟨W4.heap.size, 0, none⟩) sz sz) := ⟨_, rfl⟩
    rw [← hW6] at QX6 QZ6 KC6 B6
    have HW6 := hid hW6
    obtain ⟨X, hX⟩ : ∃ X, (b.drop 4).map (Value.int .u8) = X := ⟨_, rfl⟩
    have hXl : X.length = 0 := by rw [← hX, List.length_map, List.length_drop]; omega
    have hle : 0 ≤ sz := by
      have h1 := HT.out
      have h2 := HTM.out
      have h3 : touchN m ≤ sz := touch_le (by have := (of_decide_eq_true HFT.out).1; simp only at this; omega)
      omega
    have HLl : Hid (L.length = sz) := hid (by rw [hL.out]; simp)
    have HXm : Hid (X.length = Nat.min (0) sz) := hid (by rw [hXl]; exact (Nat.min_eq_left hle).symm)
    have HXf : Hid (0 + X.length ≤ L.length) := hid (by rw [HLl.out, hXl]; omega)
    have hsrc : Hid (0 < X.length → (some (⟨W4.heap.size, 0, none⟩ : Addr)) = some ⟨W4.heap.size, 0, none⟩ ∧ ∃ ad, (some (⟨bk, off, none⟩ : Addr)) = some ad ∧ ∀ j v, X[j]? = some v → W6.cell? (ad.add j) = some v) := by
      refine hid ?_
      intro q; rw [hXl] at q; omega
    have hX1 : Hid (∀ v ∈ X, v.oneCell' = true) := by
      refine hid ?_
      rw [← hX]
      intro v hv
      obtain ⟨y, _, rfl⟩ := List.mem_map.1 hv
      rfl
    have HA : Hid (splice L 0 X = (snOf b).A.map (Value.int .u8)) := by
      refine hid ?_
      have e1 : (snOf b).A = (b.drop 4).take (wideN (snOf b).fam) ++ List.replicate (wideN (snOf b).fam - (b.length - 4)) 0 := rfl
      rw [e1, HF.out, HSZ.out, List.take_of_length_le (by rw [List.length_drop]; omega), hL.out, ← hX]
      unfold splice
      simp only [List.take_zero, List.nil_append, Nat.zero_add, List.map_append, List.map_replicate, List.length_map, List.length_drop, List.drop_replicate]
    have HX := hid hX
    have HSL : Hid ((snOf b).A.length = sz) := hid (by rw [← HSZ.out, ← HF.out]; exact sn_wide (by rw [HF.out, HSZ.out]; omega))
    have hszb : (Tryd.prog.info? 5).map (·.size) = some 1 := by rw [hi]; simp [hz1]
    have HRF : Hid (Below W4.heap.size W6 W6) := hid (Below.refl _ _)
    have hWW : W4.heap.size ≤ W4.heap.size := Nat.le_refl _
    clear hX hXl hi hz0 hz1 hz2 KC QX5 QZ5 B5 hL hW6
    have y3 := QX6.out.cell (i := 3) rfl
    go_upto_region 11 with fail
    rw [← HW6.out]
    clear x3 g3
    go_wp2_with (refine wpList_copy_splice rfl (.tmp 51) (.tmp 52) 22 22 rfl 5 Tryd.underlying22 hszb _ _ _ _ _ _ rfl rfl W4.heap.size 0 L 5 KC6.out X HXm.out hsrc.out HXf.out hX1.out W4.heap.size W6 HRF.out hWW ?_)
    intro W7 HG7 hB7
    have KA : Hid (Bl 5 W7 W4.heap.size ((snOf b).A.map (Value.int .u8)).toArray) := hid (by rw [← HA.out]; exact HG7.out)
    have hltX : w.heap.size + 1 < W4.heap.size := hltX0
    have QX7 := hid (QX6.out.under hltX hB7)
    have QZ7 := hid (QZ6.out.under (by omega) hB7)
    have B7 : Hid (Below w.heap.size w W7) := hid (B6.out.trans (hB7.mono (by omega)))
    clear HG7 hB7 KC6 HXm hsrc HXf hX1 HA HRF y3 QX6 QZ6 B6 HX HW6
    obtain ⟨A, hA⟩ : ∃ A, (snOf b).A = A := ⟨_, rfl⟩
    have HAl : Hid (A.length = sz) := hid (by rw [← hA]; exact HSL.out)
    have HAb : Hid (∀ x ∈ A, 0 ≤ x ∧ x ≤ 255) := hid (by rw [← hA]; exact sn_bytes hbs)
    rw [hA] at KA
    have HAA := hid hA
    have hml : Hid (m ≤ 8 * A.length) := hid (by rw [HAl.out]; have := (of_decide_eq_true HFT.out).1; simp only at this; omega)
    obtain ⟨r, hr⟩ : ∃ r, decide (A = maskN m A) = r := ⟨_, rfl⟩
    have HR := hid hr
    have hAs : Hid (∀ u, Below W7.heap.size W7 u → Bys u (some ⟨W4.heap.size, 0, none⟩) sz A) := hid fun u hu => bl_bys (KA.out.below hu) HAb.out (by rw [HAl.out]; exact Nat.le_refl _) (by rw [HAl.out]; omega)
    have M1 : Hid (∀ u, Below W7.heap.size W7 u → Calls Tryd.prog 66 #[.slice (some ⟨W4.heap.size, 0, none⟩) sz sz, .int .i64 (m : Int)] u fun e u' => ∃ g, e = .returned (.slice (some ⟨g, 0, none⟩) sz sz) ∧ Bl 5 u' g ((maskN m A).map (Value.int .u8)).toArray ∧ Below W7.heap.size W7 u') := by
      refine hid fun u hu => (masked_any m A u (hAs.out u hu) (fun q => by cases q) hml.out HAl.out).mono ?_
      rintro e u' ⟨rfl, k, d⟩
      exact ⟨u.heap.size, by rw [HAl.out], k, hu.trans (d.mono hu.size)⟩
    have M2 : Hid (∀ (u : World) (g : Nat), Below W7.heap.size W7 u → Bl 5 u g ((maskN m A).map (Value.int .u8)).toArray → Calls Tryd.prog 71 #[.slice (some ⟨W4.heap.size, 0, none⟩) sz sz, .slice (some ⟨g, 0, none⟩) sz sz] u fun e u' => e = .returned (.bool r) ∧ u = u') := by
      refine hid fun u g hu k => ?_
      refine bequal_at r A (maskN m A) u HAb.out (maskN_bytes m HAb.out) (fun i hi => ?_) (fun i hi => ?_) HAl.out (by rw [maskN_len, HAl.out]) HR.out
      · rw [Nat.zero_add]; refine (KA.out.below hu).cell ?_; simp [List.getD_eq_getElem?_getD, List.getElem?_eq_getElem hi]
      · rw [Nat.zero_add]; refine k.cell ?_; simp [List.getD_eq_getElem?_getD, List.getElem?_eq_getElem hi]
    have PK2 : Hid (∀ u, Below W7.heap.size W7 u → u.cell? ⟨w.heap.size + 1, 1, none⟩ = some (.int .i64 (m : Int)) ∧ u.cell? ⟨w.heap.size + 1, 3, none⟩ = some (.slice (some ⟨W4.heap.size, 0, none⟩) sz sz) ∧ Below W7.heap.size W7 u) :=
      hid fun u hu => ⟨(QX7.out.below hu).cell (i := 1) rfl, (QX7.out.below hu).cell (i := 3) rfl, hu⟩
    clear hr hA PK HP HSL
    go_upto_region 12 with fail
    go_region_held3 (fun u => u.cell? ⟨w.heap.size + 1, 1, none⟩ = some (.int .i64 (m : Int)) ∧ u.cell? ⟨w.heap.size + 1, 3, none⟩ = some (.slice (some ⟨W4.heap.size, 0, none⟩) sz sz) ∧ Below W7.heap.size W7 u) (with_reducible (first | assumption | exact PK2.out _ (Below.drew (Below.refl _ _)) | exact PK2.out _ HB8))
      (first
        | (go_at_call 66; refine (M1.out _ ?_).mono ?_; (first | assumption | exact Below.drew (Below.refl _ _)); rintro e W8 ⟨g8, rfl, K8, HB8⟩)
        | (go_at_call 71; refine (M2.out _ _ HB8 K8).mono ?_; rintro e W9 ⟨rfl, rfl⟩))
    all_goals
      have QX8 := QX7.out.below HB8
      have QZ8 := QZ7.out.below HB8
      have B8 := hid (grown_on B7.out HB8)
      have KA8 := hid (hAs.out _ HB8)
      have y0 := QX8.cell (i := 0) rfl
      have y1 := QX8.cell (i := 1) rfl
      have y2 := QX8.cell (i := 2) rfl
      have y3 := QX8.cell (i := 3) rfl
      have z0 := QZ8.cell (i := 0) rfl
      have z1 := QZ8.cell (i := 1) rfl
      have z2 := QZ8.cell (i := 2) rfl
      have z3 := QZ8.cell (i := 3) rfl
      have f0 := QZ8.frozen 0
      have f1 := QZ8.frozen 1
      have f2 := QZ8.frozen 2
      have f3 := QZ8.frozen 3
      have HZ8 := hid QZ8
      clear QX8 QZ8 QX7 QZ7 K8 HB8 PK2 M1 M2 hAs
      cases r
      · go_wp2_with fail
        refine bodyPost_ret (results_dec _ _ w.heap.size _ _ _ _ _ rfl rfl (HZ8.out.put4 _ _ _ _)) rfl ?_
        refine DecP.bad (k := 1) ?_ (by decide) rfl (below_put4 B8.out (Nat.le_refl _) _ _ _ _)
        rw [HE.out, HAA.out, HS.out, Int.toNat_natCast, if_pos (of_decide_eq_false HR.out)]
      · go_wp2_with fail
        refine bodyPost_ret (results_dec _ _ w.heap.size _ _ _ _ _ rfl rfl (HZ8.out.put4 _ _ _ _)) rfl ?_
        have hE0 : decE b = 0 := by rw [HE.out, HAA.out, HS.out, Int.toNat_natCast, if_neg (by simpa using of_decide_eq_true HR.out)]
        refine DecP.good hE0 HF.out HS.out HC.out HAA.out HAl.out (KA8.out.put4 (by omega) _ _ _ _) (by omega) (below_put4 B8.out (Nat.le_refl _) _ _ _ _)

theorem dec_any {x : Option Addr} {c l : Nat} (b : List Int) (w : World) (h : Bys w x c b) (hl : b.length = l) : Calls Tryd.prog 32 #[.slice x l c] w (DecP b w) := by
  by_cases h4 : b.length < 4
  · exact dec_short b w hl h4
  · have h4' : 4 ≤ b.length := by omega
    rcases h.2.2.2 with e | ⟨bk, off, rfl, _, _⟩
    · rw [e] at h4'; simp at h4'
    · by_cases c1 : wideN (snOf b).fam = 0
      · exact dec_none b w h hl h4' c1
      · by_cases c2 : fitN (snOf b) (wideN (snOf b).fam)
        · by_cases c3 : b.length - 4 = touchN (snOf b).src.toNat
          · by_cases c4 : c = 4
            · exact dec_last_b b w h hl h4' c1 c2 c3 c4
            · exact dec_last_a b w h hl h4' c1 c2 c3 c4
          · by_cases c4 : c = 4
            · exact dec_len_b b w h hl h4' c1 c2 c3 c4
            · exact dec_len_a b w h hl h4' c1 c2 c3 c4
        · exact dec_unfit b w h hl h4' c1 c2

end Go.Proofs.YtgfplkhcihcagaaDoor
