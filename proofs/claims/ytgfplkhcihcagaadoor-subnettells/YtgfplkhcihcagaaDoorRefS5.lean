/-
  The walk of the document's own answer SubnetOf, its last way.
-/
import Derived.Test.YtgfplkhcihcagaaDoorRefS4
namespace Go.Proofs.YtgfplkhcihcagaaDoor
open Go.RowKit Go.Deep

theorem sn_wide_any (b : List Int) : (snOf b).A.length = wideN (snOf b).fam := by
  show ((b.drop 4).take _ ++ List.replicate _ 0).length = _
  have e : (snOf b).fam = numN (b.take 2) := rfl
  rw [e]
  simp only [List.length_append, List.length_take, List.length_drop, List.length_replicate]
  omega

theorem dec_one {b : List Int} (h4 : 4 ≤ b.length) (hw : ¬ wideN (snOf b).fam = 0) (hf : fitN (snOf b) (wideN (snOf b).fam)) (h : ¬ decE b = 0) : decE b = 1 := by
  unfold decE at h ⊢
  rw [if_neg (by omega), if_neg (by intro q; rcases q with q | q; exact hw q; exact q hf)] at h ⊢
  by_cases c : b.length - 4 = touchN (snOf b).src.toNat
  · rw [if_neg (by simpa using c)] at h ⊢
    by_cases c2 : (snOf b).A = maskN (snOf b).src.toNat (snOf b).A
    · rw [if_neg (by simpa using c2)] at h; exact absurd rfl h
    · rw [if_pos c2]
  · rw [if_pos c]

theorem fill_at {b : List Int} {sz k : Nat} (hk : k < sz) (hb : k + 4 ≤ b.length) : ((((b.drop 4).take k ++ List.replicate (sz - k) 0).map (Value.int .u8)).toArray)[k]? = some (.int .u8 0) := by
  have hl : ((b.drop 4).take k).length = k := by rw [List.length_take, List.length_drop]; omega
  rw [List.getElem?_toArray, List.getElem?_map, List.getElem?_append_right (by omega), hl, Nat.sub_self, List.getElem?_replicate, if_pos (by omega)]
  rfl

theorem fill_next {b : List Int} {sz k : Nat} (hk : k < sz) (hb : k + 4 < b.length) : ((b.drop 4).take k ++ List.replicate (sz - k) 0).set k (b.getD (k + 4) 0) = (b.drop 4).take (k + 1) ++ List.replicate (sz - (k + 1)) 0 := by
  have hl : ((b.drop 4).take k).length = k := by rw [List.length_take, List.length_drop]; omega
  rw [List.set_append_right _ _ (by omega), hl, Nat.sub_self, show sz - k = (sz - (k + 1)) + 1 by omega, List.replicate_succ, List.set_cons_zero, take_snoc (by rw [List.length_drop]; omega), List.append_assoc]
  congr 1
  rw [List.getD_eq_getElem?_getD, List.getD_eq_getElem?_getD, List.getElem?_drop, Nat.add_comm 4 k]
  rfl

theorem fill_end {b : List Int} {sz k : Nat} (hb : k + 4 ≤ b.length) (hs : k ≤ sz) (h : ¬ (k + 4 < b.length ∧ k < sz)) : (b.drop 4).take sz ++ List.replicate (sz - (b.length - 4)) 0 = (b.drop 4).take k ++ List.replicate (sz - k) 0 := by
  by_cases c : k = sz
  · subst c
    rw [show k - (b.length - 4) = 0 by omega, Nat.sub_self]
  · have e : b.length = k + 4 := by omega
    rw [List.take_of_length_le (by rw [List.length_drop]; omega), List.take_of_length_le (by rw [List.length_drop]; omega), show b.length - 4 = k by omega]

set_option maxHeartbeats 4000000 in
set_option maxRecDepth 100000 in
theorem sof_last {bk off c l : Nat} (b : List Int) (w : World) (h : Bys w (some ⟨bk, off, none⟩) c b) (hl : b.length = l) (h4 : 4 ≤ b.length) (HWn0 : ¬ wideN (snOf b).fam = 0) (hft : fitN (snOf b) (wideN (snOf b).fam)) :
    Calls Tryd.prog 31 #[.slice (some ⟨bk, off, none⟩) l c] w (SofP b w) := by
  have hlen : b.length ≤ 200000000000000 := h.2.1
  have hbs := h.2.2.1
  have hlc : b.length ≤ c := h.1
  have B0 := (Below.refl w.heap.size w).alloc (Nat.le_refl _) (.cells #[.int .i64 0, .int .i64 0, .int .i64 0, .slice none 0 0] 61)
  have Z0 := Bl.new 61 w #[.int .i64 0, .int .i64 0, .int .i64 0, .slice none 0 0]
  obtain ⟨w1, hw1⟩ : ∃ w1, w1 = w.alloc (.cells #[.int .i64 0, .int .i64 0, .int .i64 0, .slice none 0 0] 61) := ⟨_, rfl⟩
  have hsz1 : w1.heap.size = w.heap.size + 1 := by rw [hw1]; simp
  rw [← hw1] at B0 Z0
  have h1 := h.below B0
  obtain ⟨_, _, _, hd⟩ := h1
  rcases hd with hd | ⟨bk', off', e', hbk, hq⟩
  · rw [hd] at h4; simp at h4
  cases e'
  have HB00 := B0
  have HP : Hid (∀ u, Below w1.heap.size w1 u → Calls Tryd.prog 35 #[.slice (some ⟨bk, off, none⟩) l c, .int .i64 0] u fun e u' => e = .returned (.int .i64 (snOf b).fam) ∧ ∃ n, u' = u.drewN n) := by
    refine hid fun u hu => ?_
    have hB : Bys u (some ⟨bk, off, none⟩) c b := h.below (HB00.trans (hu.mono HB00.size))
    exact pair_drawn b _ u hB hl (by omega) (pair_num (by omega))
  have hc2 := hq 2 (by omega)
  have hc3 := hq 3 (by omega)
  have e2 : b.getD 2 0 = (snOf b).src := rfl
  have e3 : b.getD 3 0 = (snOf b).scp := rfl
  rw [e2] at hc2
  rw [e3] at hc3
  have r2 : 0 ≤ (snOf b).src ∧ (snOf b).src ≤ 255 := getD_byte hbs 2
  have r3 : 0 ≤ (snOf b).scp ∧ (snOf b).scp ≤ 255 := getD_byte hbs 3
  obtain ⟨r20, r21⟩ := r2
  obtain ⟨r30, r31⟩ := r3
  have HB0 := hid B0
  have HZ0 := hid Z0
  have HQ := hid hq
  have HW1 := hid hw1
  have j2 : (2 : Int) ≤ (c : Int) := by omega
  have j3 : (2 : Int) < (l : Int) := by omega
  have j4 : (3 : Int) < (l : Int) := by omega
  have j5 : ¬ (l : Int) < 4 := by omega
  have PK : Hid (∀ u, Below w1.heap.size w1 u → u.cell? ⟨bk, off + 2, none⟩ = some (.int .u8 (snOf b).src) ∧ u.cell? ⟨bk, off + 3, none⟩ = some (.int .u8 (snOf b).scp) ∧ Below w1.heap.size w1 u) :=
    hid fun u hu => ⟨by rw [hu.cell (p := ⟨bk, off + 2, none⟩) hbk]; exact hc2, by rw [hu.cell (p := ⟨bk, off + 3, none⟩) hbk]; exact hc3, hu⟩
  obtain ⟨fam, hfam⟩ : ∃ fam, (snOf b).fam = fam := ⟨_, rfl⟩
  obtain ⟨src, hsrc⟩ : ∃ src, (snOf b).src = src := ⟨_, rfl⟩
  obtain ⟨scp, hscp⟩ : ∃ scp, (snOf b).scp = scp := ⟨_, rfl⟩
  rw [hfam] at HP
  rw [hsrc, hscp] at PK
  rw [hsrc] at r20 r21
  rw [hscp] at r30 r31
  have wr2 := wrap_i64 src r20 (by omega)
  have wr3 := wrap_i64 scp r30 (by omega)
  have HF := hid hfam
  have HS := hid hsrc
  have HC := hid hscp
  clear hc2 hc3 e2 e3 hq B0 Z0 hfam hsrc hscp hw1
  go_enter Tryd.func31, Tryd.ntmps31
  go_wp2_with fail
  rw [← HW1.out]
  go_region_held3 (fun u => u.cell? ⟨bk, off + 2, none⟩ = some (.int .u8 src) ∧ u.cell? ⟨bk, off + 3, none⟩ = some (.int .u8 scp) ∧ Below w1.heap.size w1 u) (with_reducible (first | assumption | (refine PK.out _ ?_; first | exact Below.drew (Below.refl _ _) | exact below_drewN (Below.drew (Below.refl _ _)) _ | exact ((Below.refl _ _).alloc (Nat.le_refl _) _).drew | exact below_drewN ((Below.refl _ _).alloc (Nat.le_refl _) _).drew _ | exact belowx_dc _ _ | exact belowx_da _ _ _ | exact belowx_db _ _ _ | exact below_put4 (belowx_db _ _ _) (Nat.le_of_eq hsz1) _ _ _ _ | exact below_drewN ((Below.refl _ _).alloc (Nat.le_refl _) _) _)))
    (first
      | (go_at_call 35; refine (HP.out _ ?_).mono ?_; (first | assumption | exact Below.drew (Below.refl _ _) | exact ((Below.refl _ _).alloc (Nat.le_refl _) _).drew); rintro e w2 ⟨rfl, n2, rfl⟩))
  · have KX : Bl 61 ((w1.drewN (1 + n2)).alloc (.cells #[.int .i64 fam, .int .i64 src, .int .i64 scp, .slice none 0 0] 61)) (w.heap.size + 1) #[.int .i64 fam, .int .i64 src, .int .i64 scp, .slice none 0 0] := by rw [← hsz1]; exact Bl.new 61 (w1.drewN (1 + n2)) _
    have BW : Below w1.heap.size w1 ((w1.drewN (1 + n2)).alloc (.cells #[.int .i64 fam, .int .i64 src, .int .i64 scp, .slice none 0 0] 61)) := belowx_da _ _ _
    generalize (w1.drewN (1 + n2)).alloc (.cells #[.int .i64 fam, .int .i64 src, .int .i64 scp, .slice none 0 0] 61) = W3 at *
    have KZ := HZ0.out.below BW
    have B3 := hid (grown_on HB0.out BW)
    have V3 := hid BW
    have x0 := KX.cell (i := 0) rfl
    have x1 := KX.cell (i := 1) rfl
    have x2 := KX.cell (i := 2) rfl
    have x3 := KX.cell (i := 3) rfl
    have z0 := KZ.cell (i := 0) rfl
    have z1 := KZ.cell (i := 1) rfl
    have z2 := KZ.cell (i := 2) rfl
    have z3 := KZ.cell (i := 3) rfl
    have f0 := KZ.frozen 0
    have f1 := KZ.frozen 1
    have f2 := KZ.frozen 2
    have f3 := KZ.frozen 3
    have g3 := KX.frozen 3
    have QX := hid KX
    have QZ := hid KZ
    clear KX KZ BW
    go_wp2_with fail
    refine (wide2_at fam W3).mono ?_
    rintro e w' ⟨rfl, rfl⟩
    have hws := wide_small fam
    obtain ⟨sz, hsz⟩ : ∃ sz, wideN fam = sz := ⟨_, rfl⟩
    have HSZ := hid hsz
    have hn0 : (((sz : Nat) : Int) == 0) = false := by have := HWn0; rw [HF.out, hsz] at this; simp; omega
    have hsrc8 : ¬ 8 * ((sz : Nat) : Int) < src := by have := hft.1; rw [HF.out, HS.out, hsz] at this; omega
    have hscp8 : ¬ 8 * ((sz : Nat) : Int) < scp := by have := hft.2; rw [HF.out, HC.out, hsz] at this; omega
    rw [hsz] at hws ⊢
    clear hsz
    have hsz0 : 0 < sz := by simp at hn0; omega
    have HES : Hid (encB (snOf b) = b ↔ decE b = 0) := hid (enc_same h4 HWn0 hft hbs (snE_of rfl HWn0 (sn_wide_any b) hft))
    have HSN : Hid (snE (snOf b) = 0) := hid (snE_of rfl HWn0 (sn_wide_any b) hft)
    have HE1 : Hid (¬ decE b = 0 → decE b = 1) := hid (fun q => dec_one h4 HWn0 hft q)
    clear HWn0 hft
    obtain ⟨i0, hi, hz0, hz1, hz2⟩ := info_of_byte
    go_wp2_with (at_make; refine wpList_make_full _ rfl _ _ 22 rfl W3.heap.size 5 i0 (.int .u8 0) 1 Tryd.underlying22 hi hz0 hz1 _ _ _ _ sz rfl rfl rfl rfl (by rw [hz2]; omega) (by unfold maxLen; omega) (Nat.le_refl _) ?_)
    intro W5 hown5 hg5
    have hC : Bl 5 W5 W3.heap.size ((List.replicate sz (0 : Int)).map (Value.int .u8)).toArray := by
      rcases hown5.2 with ⟨e, _⟩ | ⟨g, cap, cur, e, _, hg, _, _, hcs, htk⟩
      · cases e
      · cases e
        rw [List.take_of_length_le (by simpa using Nat.le_of_eq hcs)] at htk
        have htk2 : cur.toList = (madeCells #[Value.int .u8 0] sz).toList := by simpa using htk
        rw [zeros_made] at htk2
        have : cur = ((List.replicate sz (0 : Int)).map (Value.int .u8)).toArray := Array.ext' htk2
        rw [← this]
        exact hg
    have D5 := (Below.refl W3.heap.size W3).grown hg5 (Nat.le_refl _) (fun k hk => by cases hk)
    have B5 := hid (grown_on B3.out D5)
    have KX := QX.out.below D5
    have KZ := QZ.out.below D5
    have hltX : w.heap.size + 1 < W3.heap.size := QX.out.lt
    clear x0 x1 x2 x3 z0 z1 z2 z3 f0 f1 f2 f3 g3 hown5 hg5
    have x3 := KX.cell (i := 3) rfl
    have g3 := KX.frozen 3
    have hWX : ¬ W3.heap.size = w.heap.size + 1 := by omega
    have hWZ : ¬ w.heap.size = w.heap.size + 1 := by omega
    have QX6 : Hid (Bl 61 (W5.setCell ⟨w.heap.size + 1, 3, none⟩ (.slice (some ⟨W3.heap.size, 0, none⟩) sz sz)) (w.heap.size + 1) #[.int .i64 fam, .int .i64 src, .int .i64 scp, .slice (some ⟨W3.heap.size, 0, none⟩) sz sz]) := hid (KX.set 3 _)
    have QZ6 := hid (KZ.far (p := ⟨w.heap.size + 1, 3, none⟩) hWZ (.slice (some ⟨W3.heap.size, 0, none⟩) sz sz))
    have KC6 := hid (hC.far (p := ⟨w.heap.size + 1, 3, none⟩) hWX (.slice (some ⟨W3.heap.size, 0, none⟩) sz sz))
    have B6 := hid (B5.out.setCell (p := ⟨w.heap.size + 1, 3, none⟩) (by simp) (.slice (some ⟨W3.heap.size, 0, none⟩) sz sz))
    obtain ⟨W6, hW6⟩ : ∃ W6, W6 = W5.setCell ⟨w.heap.size + 1, 3, none⟩ (.slice (some ⟨W3.heap.size, 0, none⟩) sz sz) := ⟨_, rfl⟩
    rw [← hW6] at QX6 QZ6 KC6 B6
    have HW6 := hid hW6
    have hbkw : bk < w.heap.size := by
      rcases h.2.2.2 with e | ⟨b', o', e, hb', _⟩
      · rw [e] at h4; simp at h4
      · cases e; exact hb'
    have HQ0 : Hid (∀ u, Below w.heap.size w u → ∀ i, i < l → u.cell? ⟨bk, off + i, none⟩ = some (.int .u8 (b.getD i 0))) := hid fun u hu i hi' => by
      rcases h.2.2.2 with e | ⟨b', o', e, _, hq'⟩
      · rw [e] at h4; simp at h4
      · cases e; rw [hu.cell (p := ⟨bk, off + i, none⟩) hbkw]; exact hq' i (by omega)
    clear KX KZ hC D5 QX QZ B5 hW6
    go_wp2_with fail
    rw [← HW6.out]
    clear x3 g3 HW6
    go_loopw [6] (fun t wr => ∃ j : Nat, 4 ≤ j ∧ j ≤ l ∧ j - 4 ≤ sz ∧ t = .int .i64 (j : Int) ∧ Hid (Bl 5 wr W3.heap.size (((b.drop 4).take (j - 4) ++ List.replicate (sz - (j - 4)) 0).map (Value.int .u8)).toArray) ∧ Hid (Below W3.heap.size W6 wr)) (fun t _ => l - (intOf t).toNat)
    case atStart => exact ⟨4, by omega, by omega, by omega, rfl, by simpa using KC6, hid (Below.refl _ _)⟩
    case round =>
      obtain ⟨j, hj4, hjl, hjs, rfl, HK, HW⟩ := hrel
      obtain ⟨wy, hwy⟩ : ∃ wy, wy = wr := ⟨_, rfl⟩
      subst hwy
      obtain ⟨k, hk⟩ : ∃ k, j = k + 4 := ⟨j - 4, by omega⟩
      have hks : k ≤ sz := by omega
      have e4 : (j : Int) - 4 = (k : Int) := by omega
      have e5 : j - 4 = k := by omega
      rw [e5] at HK
      have HJ := hid hk
      have HBw : Hid (Below w.heap.size w wy) := hid (B6.out.trans (HW.out.mono (by omega)))
      clear hk e5 hjs
      by_cases cc : j < l ∧ k < sz
      · obtain ⟨cj, ck⟩ := cc
        have cj2 : (j : Int) < (l : Int) := by omega
        have ck2 : (k : Int) < (sz : Int) := by omega
        have q0 := HQ0.out wy HBw.out j cj
        have q3 := (QX6.out.under hltX HW.out).cell (i := 3) rfl
        have q1 : wy.cell? ⟨W3.heap.size, k, none⟩ = some (.int .u8 0) := HK.out.cell (fill_at ck (by have := HJ.out; omega))
        have fz := HK.out.frozen k
        have HN := hid (fill_next (b := b) (sz := sz) (k := k) ck (by have := HJ.out; omega))
        have eb : b.getD j 0 = b.getD (k + 4) 0 := by rw [HJ.out]
        rw [eb] at q0
        clear eb
        generalize b.getD (k + 4) 0 = y at *
        go_wp2_with fail
        go_region
        go_wp2_with fail
        refine ⟨⟨j + 1, by omega, by omega, by have := HJ.out; omega, by go_num, hid ?_, hid ?_⟩, by simp [intOf]; omega⟩
        · have e6 : j + 1 - 4 = k + 1 := by have := HJ.out; omega
          rw [e6, ← HN.out]
          have hs := (HK.out.set k (.int .u8 y)).drew
          rw [List.map_set]
          simpa using hs
        · exact (HW.out.setCell (p := ⟨W3.heap.size, k, none⟩) (Nat.le_refl _) _).drew
      · have HAc : Hid ((snOf b).A = (b.drop 4).take k ++ List.replicate (sz - k) 0) := hid (by
          have e1 : (snOf b).A = (b.drop 4).take (wideN (snOf b).fam) ++ List.replicate (wideN (snOf b).fam - (b.length - 4)) 0 := rfl
          rw [e1, HF.out, HSZ.out]
          exact fill_end (by have := HJ.out; omega) hks (by have := HJ.out; omega))
        rw [← HAc.out] at HK
        have QX7 := QX6.out.under hltX HW.out
        have QZ7 := hid (QZ6.out.under (by omega) HW.out)
        have x0 := QX7.cell (i := 0) rfl
        have x1 := QX7.cell (i := 1) rfl
        have x2 := QX7.cell (i := 2) rfl
        have x3 := QX7.cell (i := 3) rfl
        have QX8 := hid QX7
        obtain ⟨A, hA⟩ : ∃ A, (snOf b).A = A := ⟨_, rfl⟩
        have HSB : Hid (snOf b = ⟨fam, src, scp, A⟩) := hid (by rw [← HF.out, ← HS.out, ← HC.out, ← hA])
        have HAl : Hid (A.length = sz) := hid (by rw [← hA, sn_wide_any, HF.out, HSZ.out])
        have HAb : Hid (∀ y ∈ A, 0 ≤ y ∧ y ≤ 255) := hid (by rw [← hA]; exact sn_bytes hbs)
        rw [hA] at HK
        have YA : Hid (Bys wy (some ⟨W3.heap.size, 0, none⟩) sz A) := hid (bl_bys HK.out HAb.out (by rw [HAl.out]; exact Nat.le_refl _) (by rw [HAl.out]; omega))
        have HNE := HSN.out
        rw [HSB.out] at HNE
        have M8 := hid (sbytes_any (x := some ⟨W3.heap.size, 0, none⟩) (c := sz) (l := sz) ⟨fam, src, scp, A⟩ wy YA.out HAl.out HNE)
        have HEQ := HES.out
        rw [HSB.out] at HEQ
        have HENb := hid (encB_bytes (s := ⟨fam, src, scp, A⟩) HNE HAb.out)
        obtain ⟨N, hN⟩ : ∃ N, encB ⟨fam, src, scp, A⟩ = N := ⟨_, rfl⟩
        have HP8 : Hid (∀ e w', SbP ⟨fam, src, scp, A⟩ wy e w' → ∃ b8 o8 c8, e = .returned (.slice (some ⟨b8, o8, none⟩) N.length c8) ∧ Bys w' (some ⟨b8, o8, none⟩) c8 N ∧ Below wy.heap.size wy w') := hid fun e w' hp => by
          obtain ⟨b8, o8, c8, h1, h2, _, h3⟩ := hp
          rw [hN] at h1 h2
          exact ⟨b8, o8, c8, h1, h2, h3⟩
        rw [hN] at HEQ
        have HEQ2 := hid HEQ
        have HAA := hid hA
        have cc2 : ¬ ((j : Int) < (l : Int) ∧ (k : Int) < (sz : Int)) := by omega
        clear hA HEQ HNE hN QX7 cc HAc HES HSN QX6 QZ6 KC6
        by_cases cj : (j : Int) < (l : Int)
        · have ck : ¬ (k : Int) < (sz : Int) := fun q => cc2 ⟨cj, q⟩
          clear cc2
          go_wp2_with fail
          refine M8.out.mono ?_
          intro e W8 hp
          obtain ⟨b8, o8, c8, rfl, Y8, d8⟩ := HP8.out e W8 hp
          have B8 := hid (grown_on HBw.out d8)
          have QX9 := hid (QX8.out.below d8)
          have QZ9 := hid (QZ7.out.below d8)
          have YA9 := hid (YA.out.below d8)
          have HY8 := hid Y8
          have HYb := hid (h.below B8.out)
          have hNl : N.length ≤ 200000000000000 := Y8.2.1
          obtain ⟨s0, hs0⟩ : ∃ s0, ((N.length : Int) == (l : Int)) = s0 := ⟨_, rfl⟩
          have HS0 := hid hs0
          clear hp d8 Y8 M8 HP8 x0 x1 x2 x3 QX8 QZ7 YA HBw
          go_wp2_with fail
          go_loopw [8, 9] (fun s t wx => ∃ (i : Nat) (r : Bool), i ≤ l ∧ t = .int .i64 (i : Int) ∧ s = .bool r ∧ Hid (r = true → N.length = l ∧ N.take i = b.take i) ∧ Hid (r = false → ¬ N = b) ∧ Drawn W8 wx) (fun _ t _ => l - (intOf t).toNat)
          case atStart => exact ⟨0, s0, Nat.zero_le _, rfl, rfl, hid (fun q => by have := HS0.out; rw [q, beq_iff_eq] at this; exact ⟨by omega, rfl⟩), hid (fun q => by have := HS0.out; rw [q, beq_eq_false_iff_ne] at this; intro e; rw [e, hl] at this; exact this rfl), Drawn.refl _⟩
          case round =>
            obtain ⟨i, r, hil, rfl, rfl, HT, HF2, hdr⟩ := hrel
            have HDR := hid hdr
            clear hdr hs0
            cases r
            · have HE : Hid (decE b = 1) := hid (HE1.out (fun q => HF2.out rfl (HEQ2.out.2 q)))
              have BE := hid (grown_on B8.out (HDR.out.below _))
              have KZ := QZ9.out.below (HDR.out.below _)
              have z0 := KZ.cell (i := 0) rfl
              have z1 := KZ.cell (i := 1) rfl
              have z2 := KZ.cell (i := 2) rfl
              have z3 := KZ.cell (i := 3) rfl
              have f0 := KZ.frozen 0
              have f1 := KZ.frozen 1
              have f2 := KZ.frozen 2
              have f3 := KZ.frozen 3
              have HZ := hid KZ
              clear KZ HT HF2
              by_cases hii : (i : Int) < (l : Int)
              all_goals
                go_wp2_with fail
                refine bodyPost_ret (results_sof _ _ w.heap.size _ _ _ _ _ rfl rfl (HZ.out.put4 _ _ _ _)) rfl ?_
                exact SofP.bad HE.out (by decide) rfl (below_put4 BE.out (Nat.le_refl _) _ _ _ _)
            · obtain ⟨hNl2, htk⟩ := HT.out rfl
              have HNL := hid hNl2
              have HTK := hid htk
              clear HT HF2 hNl2 htk
              by_cases hii : i < l
              · have hii2 : (i : Int) < (l : Int) := by omega
                have hii3 : (i : Int) < (N.length : Int) := by have := HNL.out; omega
                have p0 : wr.cell? ⟨b8, o8 + i, none⟩ = some (.int .u8 (N.getD i 0)) := by
                  rcases (HY8.out.drawn HDR.out).2.2.2 with e | ⟨_, _, e, _, hq'⟩
                  · have := HNL.out; rw [e] at this; simp at this; omega
                  · cases e; exact hq' i (by have := HNL.out; omega)
                have p1 : wr.cell? ⟨bk, off + i, none⟩ = some (.int .u8 (b.getD i 0)) := by
                  rcases (HYb.out.drawn HDR.out).2.2.2 with e | ⟨_, _, e, _, hq'⟩
                  · rw [e] at h4; simp at h4
                  · cases e; exact hq' i (by omega)
                have N1 : Hid ((N.getD i 0 == b.getD i 0) = true → N.take (i + 1) = b.take (i + 1)) := hid fun q => by
                  rw [take_snoc (by have := HNL.out; omega), take_snoc (by omega), HTK.out, beq_iff_eq.1 q]
                have N2 : Hid ((N.getD i 0 == b.getD i 0) = false → ¬ N = b) := hid fun q e => by
                  rw [beq_eq_false_iff_ne] at q; exact q (by rw [e])
                generalize N.getD i 0 = u at *
                generalize b.getD i 0 = v at *
                go_wp2_with fail
                go_quiet (fail)
                go_wp2_with fail
                exact ⟨⟨i + 1, u == v, by omega, by go_num, rfl, hid (fun q => ⟨HNL.out, N1.out q⟩), N2, HDR.out.more _⟩, by simp [intOf]; omega⟩
              · have hii2 : ¬ (i : Int) < (l : Int) := by omega
                have HE : Hid (decE b = 0) := hid (HEQ2.out.1 (by
                  have := HTK.out
                  rwa [List.take_of_length_le (by have := HNL.out; omega), List.take_of_length_le (by omega)] at this))
                have BE := hid (grown_on B8.out (HDR.out.below _))
                have KZ := QZ9.out.below (HDR.out.below _)
                have KX := QX9.out.below (HDR.out.below _)
                have KA := hid (YA9.out.drawn HDR.out)
                have y0 := KX.cell (i := 0) rfl
                have y1 := KX.cell (i := 1) rfl
                have y2 := KX.cell (i := 2) rfl
                have y3 := KX.cell (i := 3) rfl
                have z0 := KZ.cell (i := 0) rfl
                have z1 := KZ.cell (i := 1) rfl
                have z2 := KZ.cell (i := 2) rfl
                have z3 := KZ.cell (i := 3) rfl
                have f0 := KZ.frozen 0
                have f1 := KZ.frozen 1
                have f2 := KZ.frozen 2
                have f3 := KZ.frozen 3
                have HZ := hid KZ
                clear KZ KX HTK
                go_wp2_with fail
                refine bodyPost_ret (results_sof _ _ w.heap.size _ _ _ _ _ rfl rfl (HZ.out.put4 _ _ _ _)) rfl ?_
                exact SofP.good HE.out HF.out HS.out HC.out HAA.out HAl.out (KA.out.put4 (by omega) _ _ _ _) (by omega) (below_put4 BE.out (Nat.le_refl _) _ _ _ _)
        · clear cc2
          go_wp2_with fail
          refine M8.out.mono ?_
          intro e W8 hp
          obtain ⟨b8, o8, c8, rfl, Y8, d8⟩ := HP8.out e W8 hp
          have B8 := hid (grown_on HBw.out d8)
          have QX9 := hid (QX8.out.below d8)
          have QZ9 := hid (QZ7.out.below d8)
          have YA9 := hid (YA.out.below d8)
          have HY8 := hid Y8
          have HYb := hid (h.below B8.out)
          have hNl : N.length ≤ 200000000000000 := Y8.2.1
          obtain ⟨s0, hs0⟩ : ∃ s0, ((N.length : Int) == (l : Int)) = s0 := ⟨_, rfl⟩
          have HS0 := hid hs0
          clear hp d8 Y8 M8 HP8 x0 x1 x2 x3 QX8 QZ7 YA HBw
          go_wp2_with fail
          go_loopw [8, 9] (fun s t wx => ∃ (i : Nat) (r : Bool), i ≤ l ∧ t = .int .i64 (i : Int) ∧ s = .bool r ∧ Hid (r = true → N.length = l ∧ N.take i = b.take i) ∧ Hid (r = false → ¬ N = b) ∧ Drawn W8 wx) (fun _ t _ => l - (intOf t).toNat)
          case atStart => exact ⟨0, s0, Nat.zero_le _, rfl, rfl, hid (fun q => by have := HS0.out; rw [q, beq_iff_eq] at this; exact ⟨by omega, rfl⟩), hid (fun q => by have := HS0.out; rw [q, beq_eq_false_iff_ne] at this; intro e; rw [e, hl] at this; exact this rfl), Drawn.refl _⟩
          case round =>
            obtain ⟨i, r, hil, rfl, rfl, HT, HF2, hdr⟩ := hrel
            have HDR := hid hdr
            clear hdr hs0
            cases r
            · have HE : Hid (decE b = 1) := hid (HE1.out (fun q => HF2.out rfl (HEQ2.out.2 q)))
              have BE := hid (grown_on B8.out (HDR.out.below _))
              have KZ := QZ9.out.below (HDR.out.below _)
              have z0 := KZ.cell (i := 0) rfl
              have z1 := KZ.cell (i := 1) rfl
              have z2 := KZ.cell (i := 2) rfl
              have z3 := KZ.cell (i := 3) rfl
              have f0 := KZ.frozen 0
              have f1 := KZ.frozen 1
              have f2 := KZ.frozen 2
              have f3 := KZ.frozen 3
              have HZ := hid KZ
              clear KZ HT HF2
              by_cases hii : (i : Int) < (l : Int)
              all_goals
                go_wp2_with fail
                refine bodyPost_ret (results_sof _ _ w.heap.size _ _ _ _ _ rfl rfl (HZ.out.put4 _ _ _ _)) rfl ?_
                exact SofP.bad HE.out (by decide) rfl (below_put4 BE.out (Nat.le_refl _) _ _ _ _)
            · obtain ⟨hNl2, htk⟩ := HT.out rfl
              have HNL := hid hNl2
              have HTK := hid htk
              clear HT HF2 hNl2 htk
              by_cases hii : i < l
              · have hii2 : (i : Int) < (l : Int) := by omega
                have hii3 : (i : Int) < (N.length : Int) := by have := HNL.out; omega
                have p0 : wr.cell? ⟨b8, o8 + i, none⟩ = some (.int .u8 (N.getD i 0)) := by
                  rcases (HY8.out.drawn HDR.out).2.2.2 with e | ⟨_, _, e, _, hq'⟩
                  · have := HNL.out; rw [e] at this; simp at this; omega
                  · cases e; exact hq' i (by have := HNL.out; omega)
                have p1 : wr.cell? ⟨bk, off + i, none⟩ = some (.int .u8 (b.getD i 0)) := by
                  rcases (HYb.out.drawn HDR.out).2.2.2 with e | ⟨_, _, e, _, hq'⟩
                  · rw [e] at h4; simp at h4
                  · cases e; exact hq' i (by omega)
                have N1 : Hid ((N.getD i 0 == b.getD i 0) = true → N.take (i + 1) = b.take (i + 1)) := hid fun q => by
                  rw [take_snoc (by have := HNL.out; omega), take_snoc (by omega), HTK.out, beq_iff_eq.1 q]
                have N2 : Hid ((N.getD i 0 == b.getD i 0) = false → ¬ N = b) := hid fun q e => by
                  rw [beq_eq_false_iff_ne] at q; exact q (by rw [e])
                generalize N.getD i 0 = u at *
                generalize b.getD i 0 = v at *
                go_wp2_with fail
                go_quiet (fail)
                go_wp2_with fail
                exact ⟨⟨i + 1, u == v, by omega, by go_num, rfl, hid (fun q => ⟨HNL.out, N1.out q⟩), N2, HDR.out.more _⟩, by simp [intOf]; omega⟩
              · have hii2 : ¬ (i : Int) < (l : Int) := by omega
                have HE : Hid (decE b = 0) := hid (HEQ2.out.1 (by
                  have := HTK.out
                  rwa [List.take_of_length_le (by have := HNL.out; omega), List.take_of_length_le (by omega)] at this))
                have BE := hid (grown_on B8.out (HDR.out.below _))
                have KZ := QZ9.out.below (HDR.out.below _)
                have KX := QX9.out.below (HDR.out.below _)
                have KA := hid (YA9.out.drawn HDR.out)
                have y0 := KX.cell (i := 0) rfl
                have y1 := KX.cell (i := 1) rfl
                have y2 := KX.cell (i := 2) rfl
                have y3 := KX.cell (i := 3) rfl
                have z0 := KZ.cell (i := 0) rfl
                have z1 := KZ.cell (i := 1) rfl
                have z2 := KZ.cell (i := 2) rfl
                have z3 := KZ.cell (i := 3) rfl
                have f0 := KZ.frozen 0
                have f1 := KZ.frozen 1
                have f2 := KZ.frozen 2
                have f3 := KZ.frozen 3
                have HZ := hid KZ
                clear KZ KX HTK
                go_wp2_with fail
                refine bodyPost_ret (results_sof _ _ w.heap.size _ _ _ _ _ rfl rfl (HZ.out.put4 _ _ _ _)) rfl ?_
                exact SofP.good HE.out HF.out HS.out HC.out HAA.out HAl.out (KA.out.put4 (by omega) _ _ _ _) (by omega) (below_put4 BE.out (Nat.le_refl _) _ _ _ _)
  · have KX0 : Bl 61 ((w1.alloc (.cells #[.int .i64 0, .int .i64 0, .int .i64 0, .slice none 0 0] 61)).drewN (1 + n2)) (w.heap.size + 1) #[.int .i64 0, .int .i64 0, .int .i64 0, .slice none 0 0] := by rw [← hsz1]; exact (Bl.new 61 w1 _).drewN _
    have KX : Bl 61 ((((((w1.alloc (.cells #[.int .i64 0, .int .i64 0, .int .i64 0, .slice none 0 0] 61)).drewN (1 + n2)).setCell ⟨w.heap.size + 1, 0, none⟩ (.int .i64 fam)).setCell ⟨w.heap.size + 1, 1, none⟩ (.int .i64 src)).setCell ⟨w.heap.size + 1, 2, none⟩ (.int .i64 scp)).setCell ⟨w.heap.size + 1, 3, none⟩ (.slice none 0 0)) (w.heap.size + 1) #[.int .i64 fam, .int .i64 src, .int .i64 scp, .slice none 0 0] := KX0.put4 _ _ _ _
    have BW : Below w1.heap.size w1 ((((((w1.alloc (.cells #[.int .i64 0, .int .i64 0, .int .i64 0, .slice none 0 0] 61)).drewN (1 + n2)).setCell ⟨w.heap.size + 1, 0, none⟩ (.int .i64 fam)).setCell ⟨w.heap.size + 1, 1, none⟩ (.int .i64 src)).setCell ⟨w.heap.size + 1, 2, none⟩ (.int .i64 scp)).setCell ⟨w.heap.size + 1, 3, none⟩ (.slice none 0 0)) := below_put4 (belowx_db _ _ _) (Nat.le_of_eq hsz1) _ _ _ _
    clear KX0
    generalize (((((w1.alloc (.cells #[.int .i64 0, .int .i64 0, .int .i64 0, .slice none 0 0] 61)).drewN (1 + n2)).setCell ⟨w.heap.size + 1, 0, none⟩ (.int .i64 fam)).setCell ⟨w.heap.size + 1, 1, none⟩ (.int .i64 src)).setCell ⟨w.heap.size + 1, 2, none⟩ (.int .i64 scp)).setCell ⟨w.heap.size + 1, 3, none⟩ (.slice none 0 0) = W3 at *
    have KZ := HZ0.out.below BW
    have B3 := hid (grown_on HB0.out BW)
    have V3 := hid BW
    have x0 := KX.cell (i := 0) rfl
    have x1 := KX.cell (i := 1) rfl
    have x2 := KX.cell (i := 2) rfl
    have x3 := KX.cell (i := 3) rfl
    have z0 := KZ.cell (i := 0) rfl
    have z1 := KZ.cell (i := 1) rfl
    have z2 := KZ.cell (i := 2) rfl
    have z3 := KZ.cell (i := 3) rfl
    have f0 := KZ.frozen 0
    have f1 := KZ.frozen 1
    have f2 := KZ.frozen 2
    have f3 := KZ.frozen 3
    have g3 := KX.frozen 3
    have QX := hid KX
    have QZ := hid KZ
    clear KX KZ BW
    go_wp2_with fail
    refine (wide2_at fam W3).mono ?_
    rintro e w' ⟨rfl, rfl⟩
    have hws := wide_small fam
    obtain ⟨sz, hsz⟩ : ∃ sz, wideN fam = sz := ⟨_, rfl⟩
    have HSZ := hid hsz
    have hn0 : (((sz : Nat) : Int) == 0) = false := by have := HWn0; rw [HF.out, hsz] at this; simp; omega
    have hsrc8 : ¬ 8 * ((sz : Nat) : Int) < src := by have := hft.1; rw [HF.out, HS.out, hsz] at this; omega
    have hscp8 : ¬ 8 * ((sz : Nat) : Int) < scp := by have := hft.2; rw [HF.out, HC.out, hsz] at this; omega
    rw [hsz] at hws ⊢
    clear hsz
    have hsz0 : 0 < sz := by simp at hn0; omega
    have HES : Hid (encB (snOf b) = b ↔ decE b = 0) := hid (enc_same h4 HWn0 hft hbs (snE_of rfl HWn0 (sn_wide_any b) hft))
    have HSN : Hid (snE (snOf b) = 0) := hid (snE_of rfl HWn0 (sn_wide_any b) hft)
    have HE1 : Hid (¬ decE b = 0 → decE b = 1) := hid (fun q => dec_one h4 HWn0 hft q)
    clear HWn0 hft
    obtain ⟨i0, hi, hz0, hz1, hz2⟩ := info_of_byte
    go_wp2_with (at_make; refine wpList_make_full _ rfl _ _ 22 rfl W3.heap.size 5 i0 (.int .u8 0) 1 Tryd.underlying22 hi hz0 hz1 _ _ _ _ sz rfl rfl rfl rfl (by rw [hz2]; omega) (by unfold maxLen; omega) (Nat.le_refl _) ?_)
    intro W5 hown5 hg5
    have hC : Bl 5 W5 W3.heap.size ((List.replicate sz (0 : Int)).map (Value.int .u8)).toArray := by
      rcases hown5.2 with ⟨e, _⟩ | ⟨g, cap, cur, e, _, hg, _, _, hcs, htk⟩
      · cases e
      · cases e
        rw [List.take_of_length_le (by simpa using Nat.le_of_eq hcs)] at htk
        have htk2 : cur.toList = (madeCells #[Value.int .u8 0] sz).toList := by simpa using htk
        rw [zeros_made] at htk2
        have : cur = ((List.replicate sz (0 : Int)).map (Value.int .u8)).toArray := Array.ext' htk2
        rw [← this]
        exact hg
    have D5 := (Below.refl W3.heap.size W3).grown hg5 (Nat.le_refl _) (fun k hk => by cases hk)
    have B5 := hid (grown_on B3.out D5)
    have KX := QX.out.below D5
    have KZ := QZ.out.below D5
    have hltX : w.heap.size + 1 < W3.heap.size := QX.out.lt
    clear x0 x1 x2 x3 z0 z1 z2 z3 f0 f1 f2 f3 g3 hown5 hg5
    have x3 := KX.cell (i := 3) rfl
    have g3 := KX.frozen 3
    have hWX : ¬ W3.heap.size = w.heap.size + 1 := by omega
    have hWZ : ¬ w.heap.size = w.heap.size + 1 := by omega
    have QX6 : Hid (Bl 61 (W5.setCell ⟨w.heap.size + 1, 3, none⟩ (.slice (some ⟨W3.heap.size, 0, none⟩) sz sz)) (w.heap.size + 1) #[.int .i64 fam, .int .i64 src, .int .i64 scp, .slice (some ⟨W3.heap.size, 0, none⟩) sz sz]) := hid (KX.set 3 _)
    have QZ6 := hid (KZ.far (p := ⟨w.heap.size + 1, 3, none⟩) hWZ (.slice (some ⟨W3.heap.size, 0, none⟩) sz sz))
    have KC6 := hid (hC.far (p := ⟨w.heap.size + 1, 3, none⟩) hWX (.slice (some ⟨W3.heap.size, 0, none⟩) sz sz))
    have B6 := hid (B5.out.setCell (p := ⟨w.heap.size + 1, 3, none⟩) (by simp) (.slice (some ⟨W3.heap.size, 0, none⟩) sz sz))
    obtain ⟨W6, hW6⟩ : ∃ W6, W6 = W5.setCell ⟨w.heap.size + 1, 3, none⟩ (.slice (some ⟨W3.heap.size, 0, none⟩) sz sz) := ⟨_, rfl⟩
    rw [← hW6] at QX6 QZ6 KC6 B6
    have HW6 := hid hW6
    have hbkw : bk < w.heap.size := by
      rcases h.2.2.2 with e | ⟨b', o', e, hb', _⟩
      · rw [e] at h4; simp at h4
      · cases e; exact hb'
    have HQ0 : Hid (∀ u, Below w.heap.size w u → ∀ i, i < l → u.cell? ⟨bk, off + i, none⟩ = some (.int .u8 (b.getD i 0))) := hid fun u hu i hi' => by
      rcases h.2.2.2 with e | ⟨b', o', e, _, hq'⟩
      · rw [e] at h4; simp at h4
      · cases e; rw [hu.cell (p := ⟨bk, off + i, none⟩) hbkw]; exact hq' i (by omega)
    clear KX KZ hC D5 QX QZ B5 hW6
    go_wp2_with fail
    rw [← HW6.out]
    clear x3 g3 HW6
    go_loopw [6] (fun t wr => ∃ j : Nat, 4 ≤ j ∧ j ≤ l ∧ j - 4 ≤ sz ∧ t = .int .i64 (j : Int) ∧ Hid (Bl 5 wr W3.heap.size (((b.drop 4).take (j - 4) ++ List.replicate (sz - (j - 4)) 0).map (Value.int .u8)).toArray) ∧ Hid (Below W3.heap.size W6 wr)) (fun t _ => l - (intOf t).toNat)
    case atStart => exact ⟨4, by omega, by omega, by omega, rfl, by simpa using KC6, hid (Below.refl _ _)⟩
    case round =>
      obtain ⟨j, hj4, hjl, hjs, rfl, HK, HW⟩ := hrel
      obtain ⟨wy, hwy⟩ : ∃ wy, wy = wr := ⟨_, rfl⟩
      subst hwy
      obtain ⟨k, hk⟩ : ∃ k, j = k + 4 := ⟨j - 4, by omega⟩
      have hks : k ≤ sz := by omega
      have e4 : (j : Int) - 4 = (k : Int) := by omega
      have e5 : j - 4 = k := by omega
      rw [e5] at HK
      have HJ := hid hk
      have HBw : Hid (Below w.heap.size w wy) := hid (B6.out.trans (HW.out.mono (by omega)))
      clear hk e5 hjs
      by_cases cc : j < l ∧ k < sz
      · obtain ⟨cj, ck⟩ := cc
        have cj2 : (j : Int) < (l : Int) := by omega
        have ck2 : (k : Int) < (sz : Int) := by omega
        have q0 := HQ0.out wy HBw.out j cj
        have q3 := (QX6.out.under hltX HW.out).cell (i := 3) rfl
        have q1 : wy.cell? ⟨W3.heap.size, k, none⟩ = some (.int .u8 0) := HK.out.cell (fill_at ck (by have := HJ.out; omega))
        have fz := HK.out.frozen k
        have HN := hid (fill_next (b := b) (sz := sz) (k := k) ck (by have := HJ.out; omega))
        have eb : b.getD j 0 = b.getD (k + 4) 0 := by rw [HJ.out]
        rw [eb] at q0
        clear eb
        generalize b.getD (k + 4) 0 = y at *
        go_wp2_with fail
        go_region
        go_wp2_with fail
        refine ⟨⟨j + 1, by omega, by omega, by have := HJ.out; omega, by go_num, hid ?_, hid ?_⟩, by simp [intOf]; omega⟩
        · have e6 : j + 1 - 4 = k + 1 := by have := HJ.out; omega
          rw [e6, ← HN.out]
          have hs := (HK.out.set k (.int .u8 y)).drew
          rw [List.map_set]
          simpa using hs
        · exact (HW.out.setCell (p := ⟨W3.heap.size, k, none⟩) (Nat.le_refl _) _).drew
      · have HAc : Hid ((snOf b).A = (b.drop 4).take k ++ List.replicate (sz - k) 0) := hid (by
          have e1 : (snOf b).A = (b.drop 4).take (wideN (snOf b).fam) ++ List.replicate (wideN (snOf b).fam - (b.length - 4)) 0 := rfl
          rw [e1, HF.out, HSZ.out]
          exact fill_end (by have := HJ.out; omega) hks (by have := HJ.out; omega))
        rw [← HAc.out] at HK
        have QX7 := QX6.out.under hltX HW.out
        have QZ7 := hid (QZ6.out.under (by omega) HW.out)
        have x0 := QX7.cell (i := 0) rfl
        have x1 := QX7.cell (i := 1) rfl
        have x2 := QX7.cell (i := 2) rfl
        have x3 := QX7.cell (i := 3) rfl
        have QX8 := hid QX7
        obtain ⟨A, hA⟩ : ∃ A, (snOf b).A = A := ⟨_, rfl⟩
        have HSB : Hid (snOf b = ⟨fam, src, scp, A⟩) := hid (by rw [← HF.out, ← HS.out, ← HC.out, ← hA])
        have HAl : Hid (A.length = sz) := hid (by rw [← hA, sn_wide_any, HF.out, HSZ.out])
        have HAb : Hid (∀ y ∈ A, 0 ≤ y ∧ y ≤ 255) := hid (by rw [← hA]; exact sn_bytes hbs)
        rw [hA] at HK
        have YA : Hid (Bys wy (some ⟨W3.heap.size, 0, none⟩) sz A) := hid (bl_bys HK.out HAb.out (by rw [HAl.out]; exact Nat.le_refl _) (by rw [HAl.out]; omega))
        have HNE := HSN.out
        rw [HSB.out] at HNE
        have M8 := hid (sbytes_any (x := some ⟨W3.heap.size, 0, none⟩) (c := sz) (l := sz) ⟨fam, src, scp, A⟩ wy YA.out HAl.out HNE)
        have HEQ := HES.out
        rw [HSB.out] at HEQ
        have HENb := hid (encB_bytes (s := ⟨fam, src, scp, A⟩) HNE HAb.out)
        obtain ⟨N, hN⟩ : ∃ N, encB ⟨fam, src, scp, A⟩ = N := ⟨_, rfl⟩
        have HP8 : Hid (∀ e w', SbP ⟨fam, src, scp, A⟩ wy e w' → ∃ b8 o8 c8, e = .returned (.slice (some ⟨b8, o8, none⟩) N.length c8) ∧ Bys w' (some ⟨b8, o8, none⟩) c8 N ∧ Below wy.heap.size wy w') := hid fun e w' hp => by
          obtain ⟨b8, o8, c8, h1, h2, _, h3⟩ := hp
          rw [hN] at h1 h2
          exact ⟨b8, o8, c8, h1, h2, h3⟩
        rw [hN] at HEQ
        have HEQ2 := hid HEQ
        have HAA := hid hA
        have cc2 : ¬ ((j : Int) < (l : Int) ∧ (k : Int) < (sz : Int)) := by omega
        clear hA HEQ HNE hN QX7 cc HAc HES HSN QX6 QZ6 KC6
        by_cases cj : (j : Int) < (l : Int)
        · have ck : ¬ (k : Int) < (sz : Int) := fun q => cc2 ⟨cj, q⟩
          clear cc2
          go_wp2_with fail
          refine M8.out.mono ?_
          intro e W8 hp
          obtain ⟨b8, o8, c8, rfl, Y8, d8⟩ := HP8.out e W8 hp
          have B8 := hid (grown_on HBw.out d8)
          have QX9 := hid (QX8.out.below d8)
          have QZ9 := hid (QZ7.out.below d8)
          have YA9 := hid (YA.out.below d8)
          have HY8 := hid Y8
          have HYb := hid (h.below B8.out)
          have hNl : N.length ≤ 200000000000000 := Y8.2.1
          obtain ⟨s0, hs0⟩ : ∃ s0, ((N.length : Int) == (l : Int)) = s0 := ⟨_, rfl⟩
          have HS0 := hid hs0
          clear hp d8 Y8 M8 HP8 x0 x1 x2 x3 QX8 QZ7 YA HBw
          go_wp2_with fail
          go_loopw [8, 9] (fun s t wx => ∃ (i : Nat) (r : Bool), i ≤ l ∧ t = .int .i64 (i : Int) ∧ s = .bool r ∧ Hid (r = true → N.length = l ∧ N.take i = b.take i) ∧ Hid (r = false → ¬ N = b) ∧ Drawn W8 wx) (fun _ t _ => l - (intOf t).toNat)
          case atStart => exact ⟨0, s0, Nat.zero_le _, rfl, rfl, hid (fun q => by have := HS0.out; rw [q, beq_iff_eq] at this; exact ⟨by omega, rfl⟩), hid (fun q => by have := HS0.out; rw [q, beq_eq_false_iff_ne] at this; intro e; rw [e, hl] at this; exact this rfl), Drawn.refl _⟩
          case round =>
            obtain ⟨i, r, hil, rfl, rfl, HT, HF2, hdr⟩ := hrel
            have HDR := hid hdr
            clear hdr hs0
            cases r
            · have HE : Hid (decE b = 1) := hid (HE1.out (fun q => HF2.out rfl (HEQ2.out.2 q)))
              have BE := hid (grown_on B8.out (HDR.out.below _))
              have KZ := QZ9.out.below (HDR.out.below _)
              have z0 := KZ.cell (i := 0) rfl
              have z1 := KZ.cell (i := 1) rfl
              have z2 := KZ.cell (i := 2) rfl
              have z3 := KZ.cell (i := 3) rfl
              have f0 := KZ.frozen 0
              have f1 := KZ.frozen 1
              have f2 := KZ.frozen 2
              have f3 := KZ.frozen 3
              have HZ := hid KZ
              clear KZ HT HF2
              by_cases hii : (i : Int) < (l : Int)
              all_goals
                go_wp2_with fail
                refine bodyPost_ret (results_sof _ _ w.heap.size _ _ _ _ _ rfl rfl (HZ.out.put4 _ _ _ _)) rfl ?_
                exact SofP.bad HE.out (by decide) rfl (below_put4 BE.out (Nat.le_refl _) _ _ _ _)
            · obtain ⟨hNl2, htk⟩ := HT.out rfl
              have HNL := hid hNl2
              have HTK := hid htk
              clear HT HF2 hNl2 htk
              by_cases hii : i < l
              · have hii2 : (i : Int) < (l : Int) := by omega
                have hii3 : (i : Int) < (N.length : Int) := by have := HNL.out; omega
                have p0 : wr.cell? ⟨b8, o8 + i, none⟩ = some (.int .u8 (N.getD i 0)) := by
                  rcases (HY8.out.drawn HDR.out).2.2.2 with e | ⟨_, _, e, _, hq'⟩
                  · have := HNL.out; rw [e] at this; simp at this; omega
                  · cases e; exact hq' i (by have := HNL.out; omega)
                have p1 : wr.cell? ⟨bk, off + i, none⟩ = some (.int .u8 (b.getD i 0)) := by
                  rcases (HYb.out.drawn HDR.out).2.2.2 with e | ⟨_, _, e, _, hq'⟩
                  · rw [e] at h4; simp at h4
                  · cases e; exact hq' i (by omega)
                have N1 : Hid ((N.getD i 0 == b.getD i 0) = true → N.take (i + 1) = b.take (i + 1)) := hid fun q => by
                  rw [take_snoc (by have := HNL.out; omega), take_snoc (by omega), HTK.out, beq_iff_eq.1 q]
                have N2 : Hid ((N.getD i 0 == b.getD i 0) = false → ¬ N = b) := hid fun q e => by
                  rw [beq_eq_false_iff_ne] at q; exact q (by rw [e])
                generalize N.getD i 0 = u at *
                generalize b.getD i 0 = v at *
                go_wp2_with fail
                go_quiet (fail)
                go_wp2_with fail
                exact ⟨⟨i + 1, u == v, by omega, by go_num, rfl, hid (fun q => ⟨HNL.out, N1.out q⟩), N2, HDR.out.more _⟩, by simp [intOf]; omega⟩
              · have hii2 : ¬ (i : Int) < (l : Int) := by omega
                have HE : Hid (decE b = 0) := hid (HEQ2.out.1 (by
                  have := HTK.out
                  rwa [List.take_of_length_le (by have := HNL.out; omega), List.take_of_length_le (by omega)] at this))
                have BE := hid (grown_on B8.out (HDR.out.below _))
                have KZ := QZ9.out.below (HDR.out.below _)
                have KX := QX9.out.below (HDR.out.below _)
                have KA := hid (YA9.out.drawn HDR.out)
                have y0 := KX.cell (i := 0) rfl
                have y1 := KX.cell (i := 1) rfl
                have y2 := KX.cell (i := 2) rfl
                have y3 := KX.cell (i := 3) rfl
                have z0 := KZ.cell (i := 0) rfl
                have z1 := KZ.cell (i := 1) rfl
                have z2 := KZ.cell (i := 2) rfl
                have z3 := KZ.cell (i := 3) rfl
                have f0 := KZ.frozen 0
                have f1 := KZ.frozen 1
                have f2 := KZ.frozen 2
                have f3 := KZ.frozen 3
                have HZ := hid KZ
                clear KZ KX HTK
                go_wp2_with fail
                refine bodyPost_ret (results_sof _ _ w.heap.size _ _ _ _ _ rfl rfl (HZ.out.put4 _ _ _ _)) rfl ?_
                exact SofP.good HE.out HF.out HS.out HC.out HAA.out HAl.out (KA.out.put4 (by omega) _ _ _ _) (by omega) (below_put4 BE.out (Nat.le_refl _) _ _ _ _)
        · clear cc2
          go_wp2_with fail
          refine M8.out.mono ?_
          intro e W8 hp
          obtain ⟨b8, o8, c8, rfl, Y8, d8⟩ := HP8.out e W8 hp
          have B8 := hid (grown_on HBw.out d8)
          have QX9 := hid (QX8.out.below d8)
          have QZ9 := hid (QZ7.out.below d8)
          have YA9 := hid (YA.out.below d8)
          have HY8 := hid Y8
          have HYb := hid (h.below B8.out)
          have hNl : N.length ≤ 200000000000000 := Y8.2.1
          obtain ⟨s0, hs0⟩ : ∃ s0, ((N.length : Int) == (l : Int)) = s0 := ⟨_, rfl⟩
          have HS0 := hid hs0
          clear hp d8 Y8 M8 HP8 x0 x1 x2 x3 QX8 QZ7 YA HBw
          go_wp2_with fail
          go_loopw [8, 9] (fun s t wx => ∃ (i : Nat) (r : Bool), i ≤ l ∧ t = .int .i64 (i : Int) ∧ s = .bool r ∧ Hid (r = true → N.length = l ∧ N.take i = b.take i) ∧ Hid (r = false → ¬ N = b) ∧ Drawn W8 wx) (fun _ t _ => l - (intOf t).toNat)
          case atStart => exact ⟨0, s0, Nat.zero_le _, rfl, rfl, hid (fun q => by have := HS0.out; rw [q, beq_iff_eq] at this; exact ⟨by omega, rfl⟩), hid (fun q => by have := HS0.out; rw [q, beq_eq_false_iff_ne] at this; intro e; rw [e, hl] at this; exact this rfl), Drawn.refl _⟩
          case round =>
            obtain ⟨i, r, hil, rfl, rfl, HT, HF2, hdr⟩ := hrel
            have HDR := hid hdr
            clear hdr hs0
            cases r
            · have HE : Hid (decE b = 1) := hid (HE1.out (fun q => HF2.out rfl (HEQ2.out.2 q)))
              have BE := hid (grown_on B8.out (HDR.out.below _))
              have KZ := QZ9.out.below (HDR.out.below _)
              have z0 := KZ.cell (i := 0) rfl
              have z1 := KZ.cell (i := 1) rfl
              have z2 := KZ.cell (i := 2) rfl
              have z3 := KZ.cell (i := 3) rfl
              have f0 := KZ.frozen 0
              have f1 := KZ.frozen 1
              have f2 := KZ.frozen 2
              have f3 := KZ.frozen 3
              have HZ := hid KZ
              clear KZ HT HF2
              by_cases hii : (i : Int) < (l : Int)
              all_goals
                go_wp2_with fail
                refine bodyPost_ret (results_sof _ _ w.heap.size _ _ _ _ _ rfl rfl (HZ.out.put4 _ _ _ _)) rfl ?_
                exact SofP.bad HE.out (by decide) rfl (below_put4 BE.out (Nat.le_refl _) _ _ _ _)
            · obtain ⟨hNl2, htk⟩ := HT.out rfl
              have HNL := hid hNl2
              have HTK := hid htk
              clear HT HF2 hNl2 htk
              by_cases hii : i < l
              · have hii2 : (i : Int) < (l : Int) := by omega
                have hii3 : (i : Int) < (N.length : Int) := by have := HNL.out; omega
                have p0 : wr.cell? ⟨b8, o8 + i, none⟩ = some (.int .u8 (N.getD i 0)) := by
                  rcases (HY8.out.drawn HDR.out).2.2.2 with e | ⟨_, _, e, _, hq'⟩
                  · have := HNL.out; rw [e] at this; simp at this; omega
                  · cases e; exact hq' i (by have := HNL.out; omega)
                have p1 : wr.cell? ⟨bk, off + i, none⟩ = some (.int .u8 (b.getD i 0)) := by
                  rcases (HYb.out.drawn HDR.out).2.2.2 with e | ⟨_, _, e, _, hq'⟩
                  · rw [e] at h4; simp at h4
                  · cases e; exact hq' i (by omega)
                have N1 : Hid ((N.getD i 0 == b.getD i 0) = true → N.take (i + 1) = b.take (i + 1)) := hid fun q => by
                  rw [take_snoc (by have := HNL.out; omega), take_snoc (by omega), HTK.out, beq_iff_eq.1 q]
                have N2 : Hid ((N.getD i 0 == b.getD i 0) = false → ¬ N = b) := hid fun q e => by
                  rw [beq_eq_false_iff_ne] at q; exact q (by rw [e])
                generalize N.getD i 0 = u at *
                generalize b.getD i 0 = v at *
                go_wp2_with fail
                go_quiet (fail)
                go_wp2_with fail
                exact ⟨⟨i + 1, u == v, by omega, by go_num, rfl, hid (fun q => ⟨HNL.out, N1.out q⟩), N2, HDR.out.more _⟩, by simp [intOf]; omega⟩
              · have hii2 : ¬ (i : Int) < (l : Int) := by omega
                have HE : Hid (decE b = 0) := hid (HEQ2.out.1 (by
                  have := HTK.out
                  rwa [List.take_of_length_le (by have := HNL.out; omega), List.take_of_length_le (by omega)] at this))
                have BE := hid (grown_on B8.out (HDR.out.below _))
                have KZ := QZ9.out.below (HDR.out.below _)
                have KX := QX9.out.below (HDR.out.below _)
                have KA := hid (YA9.out.drawn HDR.out)
                have y0 := KX.cell (i := 0) rfl
                have y1 := KX.cell (i := 1) rfl
                have y2 := KX.cell (i := 2) rfl
                have y3 := KX.cell (i := 3) rfl
                have z0 := KZ.cell (i := 0) rfl
                have z1 := KZ.cell (i := 1) rfl
                have z2 := KZ.cell (i := 2) rfl
                have z3 := KZ.cell (i := 3) rfl
                have f0 := KZ.frozen 0
                have f1 := KZ.frozen 1
                have f2 := KZ.frozen 2
                have f3 := KZ.frozen 3
                have HZ := hid KZ
                clear KZ KX HTK
                go_wp2_with fail
                refine bodyPost_ret (results_sof _ _ w.heap.size _ _ _ _ _ rfl rfl (HZ.out.put4 _ _ _ _)) rfl ?_
                exact SofP.good HE.out HF.out HS.out HC.out HAA.out HAl.out (KA.out.put4 (by omega) _ _ _ _) (by omega) (below_put4 BE.out (Nat.le_refl _) _ _ _ _)

end Go.Proofs.YtgfplkhcihcagaaDoor
