/-
  The walk of the document's own answer SubnetOf.
-/
import Derived.Test.YtgfplkhcihcagaaDoorRefS3
import Derived.Test.YtgfplkhcihcagaaDoorRefD
import Derived.Test.YtgfplkhcihcagaaDoorSubDecC
namespace Go.Proofs.YtgfplkhcihcagaaDoor
open Go.RowKit Go.Deep

/-- What SubnetOf hands back. -/
def SofP (b : List Int) (w : World) (e : Ending) (w' : World) : Prop :=
  if decE b = 0 then ∃ g c, e = .returned (.tuple #[.agg #[.int .i64 (snOf b).fam, .int .i64 (snOf b).src, .int .i64 (snOf b).scp, .slice (some ⟨g, 0, none⟩) (snOf b).A.length c], .int .i64 0]) ∧ Bys w' (some ⟨g, 0, none⟩) c (snOf b).A ∧ w.heap.size ≤ g ∧ Below w.heap.size w w'
  else e = .returned (.tuple #[.agg #[.int .i64 0, .int .i64 0, .int .i64 0, .slice none 0 0], .int .i64 (decE b)]) ∧ Below w.heap.size w w'

theorem SofP.bad {b : List Int} {w w' : World} {k : Int} {e : Ending} (hk : decE b = k) (h0 : ¬ k = 0) (he : e = .returned (.tuple #[.agg #[.int .i64 0, .int .i64 0, .int .i64 0, .slice none 0 0], .int .i64 k])) (hb : Below w.heap.size w w') : SofP b w e w' := by
  unfold SofP
  rw [hk, if_neg h0]
  exact ⟨he, hb⟩

theorem SofP.good {b A : List Int} {fam src scp : Int} {w w' : World} {g sz : Nat} {e : Ending} (h0 : decE b = 0) (hf : (snOf b).fam = fam) (hs : (snOf b).src = src) (hc : (snOf b).scp = scp) (hA : (snOf b).A = A) (hl : A.length = sz)
    (hk : Bys w' (some ⟨g, 0, none⟩) sz A) (hg : w.heap.size ≤ g) (hb : Below w.heap.size w w') (he : e = .returned (.tuple #[.agg #[.int .i64 fam, .int .i64 src, .int .i64 scp, .slice (some ⟨g, 0, none⟩) sz sz], .int .i64 0]) := by rfl) : SofP b w e w' := by
  unfold SofP
  rw [if_pos h0, hf, hs, hc, hA, hl]
  exact ⟨g, sz, he, hk, hg, hb⟩

theorem results_sof (tmps : Array Value) (w : World) (g : Nat) (v0 v1 v2 v3 v : Value) (h2 : tmps[2]?.getD undef = .pointer (some ⟨g, 0, none⟩)) (h3 : tmps[3]?.getD undef = v) (h : Bl 61 w g #[v0, v1, v2, v3]) :
    (results Tryd.f31 tmps).run Tryd.prog w = .ok (.tuple #[.agg #[v0, v1, v2, v3], v]) w := by
  have c0 := h.cell (i := 0) rfl
  have c1 := h.cell (i := 1) rfl
  have c2 := h.cell (i := 2) rfl
  have c3 := h.cell (i := 3) rfl
  simp at c0 c1 c2 c3
  simp [results, Tryd.results31, go_sem, h2, h3, c0, c1, c2, c3]

/-- What SubnetOf asks: are the bytes those of what they seem to be? -/
theorem enc_same {b : List Int} (h4 : 4 ≤ b.length) (hw : ¬ wideN (snOf b).fam = 0) (hf : fitN (snOf b) (wideN (snOf b).fam)) (hb : ∀ x ∈ b, 0 ≤ x ∧ x ≤ 255) (hE : snE (snOf b) = 0) : encB (snOf b) = b ↔ decE b = 0 := by
  constructor
  · intro h
    have hl := encB_len hE
    rw [h] at hl
    have ht : touchN (snOf b).src.toNat ≤ wideN (snOf b).fam := touch_le (by have := hf.1; omega)
    have hA : (snOf b).A = (b.drop 4).take (wideN (snOf b).fam) ++ List.replicate (wideN (snOf b).fam - (b.length - 4)) 0 := rfl
    have hd : (b.drop 4).take (wideN (snOf b).fam) = b.drop 4 := List.take_of_length_le (by rw [List.length_drop]; omega)
    have h5 : b.drop 4 = (maskN (snOf b).src.toNat (snOf b).A).take (touchN (snOf b).src.toNat) := by
      conv => lhs; rw [← h]
      simp [encB, twoN]
    have hAl := sn_wide (b := b) (by omega)
    have h6 : (snOf b).A = maskN (snOf b).src.toNat (snOf b).A := by
      have e1 := front_mask (n := (snOf b).src.toNat) (sn_bytes hb)
      rw [← h5, hAl] at e1
      conv => lhs; rw [hA, hd, show b.length - 4 = touchN (snOf b).src.toNat by omega]
      exact e1
    unfold decE
    rw [if_neg (by omega), if_neg (by intro q; rcases q with q | q; exact hw q; exact q hf), if_neg (by omega), if_neg (by simpa using h6)]
  · intro h
    exact (enc_dec h hb).2

set_option maxHeartbeats 1000000 in
set_option maxRecDepth 100000 in
theorem sof_short {x : Option Addr} {c l : Nat} (b : List Int) (w : World) (hl : b.length = l) (h4 : b.length < 4) :
    Calls Tryd.prog 31 #[.slice x l c] w (SofP b w) := by
  have HE : Hid (decE b = 2) := hid (by unfold decE; rw [if_pos h4])
  have h5 : (l : Int) < 4 := by omega
  go_enter Tryd.func31, Tryd.ntmps31
  go_wp2_with fail
  refine bodyPost_ret (results_sof _ _ w.heap.size _ _ _ _ _ rfl rfl (Bl.new 61 w _)) rfl ?_
  exact SofP.bad HE.out (by decide) rfl ((Below.refl _ w).alloc (Nat.le_refl _) _)

theorem pair_num {b : List Int} (h : 2 ≤ b.length) : prN b 0 = (snOf b).fam := by
  match b, h with
  | x :: y :: r, _ => simp [prN, snOf, numN]

set_option maxRecDepth 100000 in
theorem pair_drawn_gen {x : Option Addr} {c l : Nat} (ms : List Int) (z v : Int) (w : World) (h : Bys w x c ms) (hl : ms.length = l) (h0 : 0 ≤ z) (h1 : z + 2 ≤ (ms.length : Int)) (hv : prN ms z = v) :
    Calls Tryd.prog 35 #[.slice x l c, .int .i64 z] w fun e w' => e = .returned (.int .i64 v) ∧ ∃ n, w' = w.drewN n := by
  subst hl
  have hlen : ms.length ≤ 200000000000000 := h.2.1
  obtain ⟨a, rfl⟩ : ∃ a : Nat, z = (a : Int) := ⟨z.toNat, by omega⟩
  have g0 := getD_byte h.2.2.1 a
  have g1 := getD_byte h.2.2.1 (a + 1)
  obtain ⟨b, off, rfl, hlt, q⟩ : ∃ b off, x = some ⟨b, off, none⟩ ∧ b < w.heap.size ∧ ∀ i, i < ms.length → w.cell? ⟨b, off + i, none⟩ = some (.int .u8 (ms.getD i 0)) := by
    rcases h.2.2.2 with hd | hd
    · rw [hd] at h1; simp at h1; omega
    · exact hd
  have q0 := q a (by omega)
  have q1 := q (a + 1) (by omega)
  have HV : Hid (ms.getD a 0 * 256 + ms.getD (a + 1) 0 = v) := hid (by rw [← hv]; unfold prN; rw [Int.toNat_natCast])
  clear q hv h
  generalize ms.getD a 0 = s at *
  generalize ms.getD (a + 1) 0 = t at *
  obtain ⟨g00, g01⟩ := g0
  obtain ⟨g10, g11⟩ := g1
  have i0 : (a : Int) < (ms.length : Int) := by omega
  have i1 : (a : Int) + 1 < (ms.length : Int) := by omega
  go_enter Tryd.func35, Tryd.ntmps35
  go_wp2
  go_quiet (fail)
  go_wp2
  go_ret
  rw [← HV.out]
  exact ⟨rfl, _, rfl⟩

theorem pair_drawn {x : Option Addr} {c l : Nat} (ms : List Int) (v : Int) (w : World) (h : Bys w x c ms) (hl : ms.length = l) (h1 : 2 ≤ ms.length) (hv : prN ms 0 = v) :
    Calls Tryd.prog 35 #[.slice x l c, .int .i64 0] w fun e w' => e = .returned (.int .i64 v) ∧ ∃ n, w' = w.drewN n :=
  pair_drawn_gen ms 0 v w h hl (by omega) (by omega) hv

theorem belowx_da (w : World) (k : Nat) (o : Obj) : Below w.heap.size w ((w.drewN k).alloc o) := Below.alloc (below_drewN (Below.refl _ _) _) (Nat.le_refl _) _

theorem belowx_db (w : World) (k : Nat) (o : Obj) : Below w.heap.size w ((w.alloc o).drewN k) := below_drewN ((Below.refl _ _).alloc (Nat.le_refl _) _) _

theorem belowx_dc (w : World) (k : Nat) : Below w.heap.size w (w.drewN k) := below_drewN (Below.refl _ _) _

set_option maxHeartbeats 4000000 in
set_option maxRecDepth 100000 in
theorem sof_none {bk off c l : Nat} (b : List Int) (w : World) (h : Bys w (some ⟨bk, off, none⟩) c b) (hl : b.length = l) (h4 : 4 ≤ b.length) (HWd0 : wideN (snOf b).fam = 0) :
    Calls Tryd.prog 31 #[.slice (some ⟨bk, off, none⟩) l c] w (SofP b w) := by
  have hlen : b.length ≤ 200000000000000 := h.2.1
  have hbs := h.2.2.1
  have hlc : b.length ≤ c := h.1
  have B0 := (Below.refl w.heap.size w).alloc (Nat.le_refl _) (.cells #[.int .i64 0, .int .i64 0, .int .i64 0, .slice none 0 0] 61)
  have Z0 := Bl.new 61 w #[.int .i64 0, .int .i64 0, .int .i64 0, .slice none 0 0]
  obtain ⟨w1, hw1⟩ : ∃ w1, w1 = w.alloc (.cells #[.int .i64 0, .int .i64 0, .int .i64 0, .slice none 0 0] 61) := ⟨_, rfl⟩
  have hsz1 : w1.heap.size = w.heap.size + 1 := by rw [hw1]; simp
  rw [← hw1] at B0 Z0
  have h1 := h.below B0
  obtain ⟨_, _, _, hd⟩ := h1
  rcases hd with hd | ⟨bk', off', e', hbk, hq⟩
  · rw [hd] at h4; simp at h4
  cases e'
  have HB00 := B0
  have HP : Hid (∀ u, Below w1.heap.size w1 u → Calls Tryd.prog 35 #[.slice (some ⟨bk, off, none⟩) l c, .int .i64 0] u fun e u' => e = .returned (.int .i64 (snOf b).fam) ∧ ∃ n, u' = u.drewN n) := by
    refine hid fun u hu => ?_
    have hB : Bys u (some ⟨bk, off, none⟩) c b := h.below (HB00.trans (hu.mono HB00.size))
    exact pair_drawn b _ u hB hl (by omega) (pair_num (by omega))
  have hc2 := hq 2 (by omega)
  have hc3 := hq 3 (by omega)
  have e2 : b.getD 2 0 = (snOf b).src := rfl
  have e3 : b.getD 3 0 = (snOf b).scp := rfl
  rw [e2] at hc2
  rw [e3] at hc3
  have r2 : 0 ≤ (snOf b).src ∧ (snOf b).src ≤ 255 := getD_byte hbs 2
  have r3 : 0 ≤ (snOf b).scp ∧ (snOf b).scp ≤ 255 := getD_byte hbs 3
  obtain ⟨r20, r21⟩ := r2
  obtain ⟨r30, r31⟩ := r3
  have HB0 := hid B0
  have HZ0 := hid Z0
  have HQ := hid hq
  have HW1 := hid hw1
  have j2 : (2 : Int) ≤ (c : Int) := by omega
  have j3 : (2 : Int) < (l : Int) := by omega
  have j4 : (3 : Int) < (l : Int) := by omega
  have j5 : ¬ (l : Int) < 4 := by omega
  have PK : Hid (∀ u, Below w1.heap.size w1 u → u.cell? ⟨bk, off + 2, none⟩ = some (.int .u8 (snOf b).src) ∧ u.cell? ⟨bk, off + 3, none⟩ = some (.int .u8 (snOf b).scp) ∧ Below w1.heap.size w1 u) :=
    hid fun u hu => ⟨by rw [hu.cell (p := ⟨bk, off + 2, none⟩) hbk]; exact hc2, by rw [hu.cell (p := ⟨bk, off + 3, none⟩) hbk]; exact hc3, hu⟩
  obtain ⟨fam, hfam⟩ : ∃ fam, (snOf b).fam = fam := ⟨_, rfl⟩
  obtain ⟨src, hsrc⟩ : ∃ src, (snOf b).src = src := ⟨_, rfl⟩
  obtain ⟨scp, hscp⟩ : ∃ scp, (snOf b).scp = scp := ⟨_, rfl⟩
  rw [hfam] at HP
  rw [hsrc, hscp] at PK
  rw [hsrc] at r20 r21
  rw [hscp] at r30 r31
  have wr2 := wrap_i64 src r20 (by omega)
  have wr3 := wrap_i64 scp r30 (by omega)
  have HF := hid hfam
  have HS := hid hsrc
  have HC := hid hscp
  clear hc2 hc3 e2 e3 hq B0 Z0 hfam hsrc hscp hw1
  go_enter Tryd.func31, Tryd.ntmps31
  go_wp2_with fail
  rw [← HW1.out]
  go_region_held3 (fun u => u.cell? ⟨bk, off + 2, none⟩ = some (.int .u8 src) ∧ u.cell? ⟨bk, off + 3, none⟩ = some (.int .u8 scp) ∧ Below w1.heap.size w1 u) (with_reducible (first | assumption | (refine PK.out _ ?_; first | exact Below.drew (Below.refl _ _) | exact below_drewN (Below.drew (Below.refl _ _)) _ | exact ((Below.refl _ _).alloc (Nat.le_refl _) _).drew | exact below_drewN ((Below.refl _ _).alloc (Nat.le_refl _) _).drew _ | exact belowx_dc _ _ | exact belowx_da _ _ _ | exact belowx_db _ _ _ | exact below_put4 (belowx_db _ _ _) (Nat.le_of_eq hsz1) _ _ _ _ | exact below_drewN ((Below.refl _ _).alloc (Nat.le_refl _) _) _)))
    (first
      | (go_at_call 35; refine (HP.out _ ?_).mono ?_; (first | assumption | exact Below.drew (Below.refl _ _) | exact ((Below.refl _ _).alloc (Nat.le_refl _) _).drew); rintro e w2 ⟨rfl, n2, rfl⟩))
  · have KX : Bl 61 ((w1.drewN (1 + n2)).alloc (.cells #[.int .i64 fam, .int .i64 src, .int .i64 scp, .slice none 0 0] 61)) (w.heap.size + 1) #[.int .i64 fam, .int .i64 src, .int .i64 scp, .slice none 0 0] := by rw [← hsz1]; exact Bl.new 61 (w1.drewN (1 + n2)) _
    have BW : Below w1.heap.size w1 ((w1.drewN (1 + n2)).alloc (.cells #[.int .i64 fam, .int .i64 src, .int .i64 scp, .slice none 0 0] 61)) := belowx_da _ _ _
    generalize (w1.drewN (1 + n2)).alloc (.cells #[.int .i64 fam, .int .i64 src, .int .i64 scp, .slice none 0 0] 61) = W3 at *
    have KZ := HZ0.out.below BW
    have B3 := hid (grown_on HB0.out BW)
    have V3 := hid BW
    have x0 := KX.cell (i := 0) rfl
    have x1 := KX.cell (i := 1) rfl
    have x2 := KX.cell (i := 2) rfl
    have x3 := KX.cell (i := 3) rfl
    have z0 := KZ.cell (i := 0) rfl
    have z1 := KZ.cell (i := 1) rfl
    have z2 := KZ.cell (i := 2) rfl
    have z3 := KZ.cell (i := 3) rfl
    have f0 := KZ.frozen 0
    have f1 := KZ.frozen 1
    have f2 := KZ.frozen 2
    have f3 := KZ.frozen 3
    have g3 := KX.frozen 3
    have QX := hid KX
    have QZ := hid KZ
    clear KX KZ BW
    go_wp2_with fail
    refine (wide2_at fam W3).mono ?_
    rintro e w' ⟨rfl, rfl⟩
    have HWd : Hid (wideN fam = 0) := hid (by rw [← HF.out]; exact HWd0)
    have HE : Hid (decE b = 6) := hid (by unfold decE; rw [if_neg (by omega), if_pos (Or.inl HWd0)])
    clear HWd0
    rw [HWd.out]
    go_wp2_with fail
    refine bodyPost_ret (results_sof _ _ w.heap.size _ _ _ _ _ rfl rfl (QZ.out.put4 _ _ _ _)) rfl ?_
    exact SofP.bad HE.out (by decide) rfl (below_put4 B3.out (Nat.le_refl _) _ _ _ _)
  · have KX0 : Bl 61 ((w1.alloc (.cells #[.int .i64 0, .int .i64 0, .int .i64 0, .slice none 0 0] 61)).drewN (1 + n2)) (w.heap.size + 1) #[.int .i64 0, .int .i64 0, .int .i64 0, .slice none 0 0] := by rw [← hsz1]; exact (Bl.new 61 w1 _).drewN _
    have KX : Bl 61 ((((((w1.alloc (.cells #[.int .i64 0, .int .i64 0, .int .i64 0, .slice none 0 0] 61)).drewN (1 + n2)).setCell ⟨w.heap.size + 1, 0, none⟩ (.int .i64 fam)).setCell ⟨w.heap.size + 1, 1, none⟩ (.int .i64 src)).setCell ⟨w.heap.size + 1, 2, none⟩ (.int .i64 scp)).setCell ⟨w.heap.size + 1, 3, none⟩ (.slice none 0 0)) (w.heap.size + 1) #[.int .i64 fam, .int .i64 src, .int .i64 scp, .slice none 0 0] := KX0.put4 _ _ _ _
    have BW : Below w1.heap.size w1 ((((((w1.alloc (.cells #[.int .i64 0, .int .i64 0, .int .i64 0, .slice none 0 0] 61)).drewN (1 + n2)).setCell ⟨w.heap.size + 1, 0, none⟩ (.int .i64 fam)).setCell ⟨w.heap.size + 1, 1, none⟩ (.int .i64 src)).setCell ⟨w.heap.size + 1, 2, none⟩ (.int .i64 scp)).setCell ⟨w.heap.size + 1, 3, none⟩ (.slice none 0 0)) := below_put4 (belowx_db _ _ _) (Nat.le_of_eq hsz1) _ _ _ _
    clear KX0
    generalize (((((w1.alloc (.cells #[.int .i64 0, .int .i64 0, .int .i64 0, .slice none 0 0] 61)).drewN (1 + n2)).setCell ⟨w.heap.size + 1, 0, none⟩ (.int .i64 fam)).setCell ⟨w.heap.size + 1, 1, none⟩ (.int .i64 src)).setCell ⟨w.heap.size + 1, 2, none⟩ (.int .i64 scp)).setCell ⟨w.heap.size + 1, 3, none⟩ (.slice none 0 0) = W3 at *
    have KZ := HZ0.out.below BW
    have B3 := hid (grown_on HB0.out BW)
    have V3 := hid BW
    have x0 := KX.cell (i := 0) rfl
    have x1 := KX.cell (i := 1) rfl
    have x2 := KX.cell (i := 2) rfl
    have x3 := KX.cell (i := 3) rfl
    have z0 := KZ.cell (i := 0) rfl
    have z1 := KZ.cell (i := 1) rfl
    have z2 := KZ.cell (i := 2) rfl
    have z3 := KZ.cell (i := 3) rfl
    have f0 := KZ.frozen 0
    have f1 := KZ.frozen 1
    have f2 := KZ.frozen 2
    have f3 := KZ.frozen 3
    have g3 := KX.frozen 3
    have QX := hid KX
    have QZ := hid KZ
    clear KX KZ BW
    go_wp2_with fail
    refine (wide2_at fam W3).mono ?_
    rintro e w' ⟨rfl, rfl⟩
    have HWd : Hid (wideN fam = 0) := hid (by rw [← HF.out]; exact HWd0)
    have HE : Hid (decE b = 6) := hid (by unfold decE; rw [if_neg (by omega), if_pos (Or.inl HWd0)])
    clear HWd0
    rw [HWd.out]
    go_wp2_with fail
    refine bodyPost_ret (results_sof _ _ w.heap.size _ _ _ _ _ rfl rfl (QZ.out.put4 _ _ _ _)) rfl ?_
    exact SofP.bad HE.out (by decide) rfl (below_put4 B3.out (Nat.le_refl _) _ _ _ _)

set_option maxHeartbeats 4000000 in
set_option maxRecDepth 100000 in
theorem sof_unfit_a {bk off c l : Nat} (b : List Int) (w : World) (h : Bys w (some ⟨bk, off, none⟩) c b) (hl : b.length = l) (h4 : 4 ≤ b.length) (HWn0 : ¬ wideN (snOf b).fam = 0) (hnf : ¬ fitN (snOf b) (wideN (snOf b).fam)) (hbig : 8 * ((wideN (snOf b).fam : Nat) : Int) < (snOf b).src) :
    Calls Tryd.prog 31 #[.slice (some ⟨bk, off, none⟩) l c] w (SofP b w) := by
  have hlen : b.length ≤ 200000000000000 := h.2.1
  have hbs := h.2.2.1
  have hlc : b.length ≤ c := h.1
  have B0 := (Below.refl w.heap.size w).alloc (Nat.le_refl _) (.cells #[.int .i64 0, .int .i64 0, .int .i64 0, .slice none 0 0] 61)
  have Z0 := Bl.new 61 w #[.int .i64 0, .int .i64 0, .int .i64 0, .slice none 0 0]
  obtain ⟨w1, hw1⟩ : ∃ w1, w1 = w.alloc (.cells #[.int .i64 0, .int .i64 0, .int .i64 0, .slice none 0 0] 61) := ⟨_, rfl⟩
  have hsz1 : w1.heap.size = w.heap.size + 1 := by rw [hw1]; simp
  rw [← hw1] at B0 Z0
  have h1 := h.below B0
  obtain ⟨_, _, _, hd⟩ := h1
  rcases hd with hd | ⟨bk', off', e', hbk, hq⟩
  · rw [hd] at h4; simp at h4
  cases e'
  have HB00 := B0
  have HP : Hid (∀ u, Below w1.heap.size w1 u → Calls Tryd.prog 35 #[.slice (some ⟨bk, off, none⟩) l c, .int .i64 0] u fun e u' => e = .returned (.int .i64 (snOf b).fam) ∧ ∃ n, u' = u.drewN n) := by
    refine hid fun u hu => ?_
    have hB : Bys u (some ⟨bk, off, none⟩) c b := h.below (HB00.trans (hu.mono HB00.size))
    exact pair_drawn b _ u hB hl (by omega) (pair_num (by omega))
  have hc2 := hq 2 (by omega)
  have hc3 := hq 3 (by omega)
  have e2 : b.getD 2 0 = (snOf b).src := rfl
  have e3 : b.getD 3 0 = (snOf b).scp := rfl
  rw [e2] at hc2
  rw [e3] at hc3
  have r2 : 0 ≤ (snOf b).src ∧ (snOf b).src ≤ 255 := getD_byte hbs 2
  have r3 : 0 ≤ (snOf b).scp ∧ (snOf b).scp ≤ 255 := getD_byte hbs 3
  obtain ⟨r20, r21⟩ := r2
  obtain ⟨r30, r31⟩ := r3
  have HB0 := hid B0
  have HZ0 := hid Z0
  have HQ := hid hq
  have HW1 := hid hw1
  have j2 : (2 : Int) ≤ (c : Int) := by omega
  have j3 : (2 : Int) < (l : Int) := by omega
  have j4 : (3 : Int) < (l : Int) := by omega
  have j5 : ¬ (l : Int) < 4 := by omega
  have PK : Hid (∀ u, Below w1.heap.size w1 u → u.cell? ⟨bk, off + 2, none⟩ = some (.int .u8 (snOf b).src) ∧ u.cell? ⟨bk, off + 3, none⟩ = some (.int .u8 (snOf b).scp) ∧ Below w1.heap.size w1 u) :=
    hid fun u hu => ⟨by rw [hu.cell (p := ⟨bk, off + 2, none⟩) hbk]; exact hc2, by rw [hu.cell (p := ⟨bk, off + 3, none⟩) hbk]; exact hc3, hu⟩
  obtain ⟨fam, hfam⟩ : ∃ fam, (snOf b).fam = fam := ⟨_, rfl⟩
  obtain ⟨src, hsrc⟩ : ∃ src, (snOf b).src = src := ⟨_, rfl⟩
  obtain ⟨scp, hscp⟩ : ∃ scp, (snOf b).scp = scp := ⟨_, rfl⟩
  rw [hfam] at HP
  rw [hsrc, hscp] at PK
  rw [hsrc] at r20 r21
  rw [hscp] at r30 r31
  have wr2 := wrap_i64 src r20 (by omega)
  have wr3 := wrap_i64 scp r30 (by omega)
  have HF := hid hfam
  have HS := hid hsrc
  have HC := hid hscp
  clear hc2 hc3 e2 e3 hq B0 Z0 hfam hsrc hscp hw1
  go_enter Tryd.func31, Tryd.ntmps31
  go_wp2_with fail
  rw [← HW1.out]
  go_region_held3 (fun u => u.cell? ⟨bk, off + 2, none⟩ = some (.int .u8 src) ∧ u.cell? ⟨bk, off + 3, none⟩ = some (.int .u8 scp) ∧ Below w1.heap.size w1 u) (with_reducible (first | assumption | (refine PK.out _ ?_; first | exact Below.drew (Below.refl _ _) | exact below_drewN (Below.drew (Below.refl _ _)) _ | exact ((Below.refl _ _).alloc (Nat.le_refl _) _).drew | exact below_drewN ((Below.refl _ _).alloc (Nat.le_refl _) _).drew _ | exact belowx_dc _ _ | exact belowx_da _ _ _ | exact belowx_db _ _ _ | exact below_put4 (belowx_db _ _ _) (Nat.le_of_eq hsz1) _ _ _ _ | exact below_drewN ((Below.refl _ _).alloc (Nat.le_refl _) _) _)))
    (first
      | (go_at_call 35; refine (HP.out _ ?_).mono ?_; (first | assumption | exact Below.drew (Below.refl _ _) | exact ((Below.refl _ _).alloc (Nat.le_refl _) _).drew); rintro e w2 ⟨rfl, n2, rfl⟩))
  · have KX : Bl 61 ((w1.drewN (1 + n2)).alloc (.cells #[.int .i64 fam, .int .i64 src, .int .i64 scp, .slice none 0 0] 61)) (w.heap.size + 1) #[.int .i64 fam, .int .i64 src, .int .i64 scp, .slice none 0 0] := by rw [← hsz1]; exact Bl.new 61 (w1.drewN (1 + n2)) _
    have BW : Below w1.heap.size w1 ((w1.drewN (1 + n2)).alloc (.cells #[.int .i64 fam, .int .i64 src, .int .i64 scp, .slice none 0 0] 61)) := belowx_da _ _ _
    generalize (w1.drewN (1 + n2)).alloc (.cells #[.int .i64 fam, .int .i64 src, .int .i64 scp, .slice none 0 0] 61) = W3 at *
    have KZ := HZ0.out.below BW
    have B3 := hid (grown_on HB0.out BW)
    have V3 := hid BW
    have x0 := KX.cell (i := 0) rfl
    have x1 := KX.cell (i := 1) rfl
    have x2 := KX.cell (i := 2) rfl
    have x3 := KX.cell (i := 3) rfl
    have z0 := KZ.cell (i := 0) rfl
    have z1 := KZ.cell (i := 1) rfl
    have z2 := KZ.cell (i := 2) rfl
    have z3 := KZ.cell (i := 3) rfl
    have f0 := KZ.frozen 0
    have f1 := KZ.frozen 1
    have f2 := KZ.frozen 2
    have f3 := KZ.frozen 3
    have g3 := KX.frozen 3
    have QX := hid KX
    have QZ := hid KZ
    clear KX KZ BW
    go_wp2_with fail
    refine (wide2_at fam W3).mono ?_
    rintro e w' ⟨rfl, rfl⟩
    have hws := wide_small fam
    obtain ⟨sz, hsz⟩ : ∃ sz, wideN fam = sz := ⟨_, rfl⟩
    have HSZ := hid hsz
    have hn0 : (((sz : Nat) : Int) == 0) = false := by have := HWn0; rw [HF.out, hsz] at this; simp; omega
    have hsrc8 : 8 * ((sz : Nat) : Int) < src := by have := hbig; rw [HF.out, HS.out, hsz] at this; exact this
    rw [hsz] at hws ⊢
    clear hsz
    have HE : Hid (decE b = 6) := hid (by unfold decE; rw [if_neg (by omega), if_pos (Or.inr hnf)])
    clear hnf HWn0
    go_wp2_with fail
    refine bodyPost_ret (results_sof _ _ w.heap.size _ _ _ _ _ rfl rfl (QZ.out.put4 _ _ _ _)) rfl ?_
    exact SofP.bad HE.out (by decide) rfl (below_put4 B3.out (Nat.le_refl _) _ _ _ _)
  · have KX0 : Bl 61 ((w1.alloc (.cells #[.int .i64 0, .int .i64 0, .int .i64 0, .slice none 0 0] 61)).drewN (1 + n2)) (w.heap.size + 1) #[.int .i64 0, .int .i64 0, .int .i64 0, .slice none 0 0] := by rw [← hsz1]; exact (Bl.new 61 w1 _).drewN _
    have KX : Bl 61 ((((((w1.alloc (.cells #[.int .i64 0, .int .i64 0, .int .i64 0, .slice none 0 0] 61)).drewN (1 + n2)).setCell ⟨w.heap.size + 1, 0, none⟩ (.int .i64 fam)).setCell ⟨w.heap.size + 1, 1, none⟩ (.int .i64 src)).setCell ⟨w.heap.size + 1, 2, none⟩ (.int .i64 scp)).setCell ⟨w.heap.size + 1, 3, none⟩ (.slice none 0 0)) (w.heap.size + 1) #[.int .i64 fam, .int .i64 src, .int .i64 scp, .slice none 0 0] := KX0.put4 _ _ _ _
    have BW : Below w1.heap.size w1 ((((((w1.alloc (.cells #[.int .i64 0, .int .i64 0, .int .i64 0, .slice none 0 0] 61)).drewN (1 + n2)).setCell ⟨w.heap.size + 1, 0, none⟩ (.int .i64 fam)).setCell ⟨w.heap.size + 1, 1, none⟩ (.int .i64 src)).setCell ⟨w.heap.size + 1, 2, none⟩ (.int .i64 scp)).setCell ⟨w.heap.size + 1, 3, none⟩ (.slice none 0 0)) := below_put4 (belowx_db _ _ _) (Nat.le_of_eq hsz1) _ _ _ _
    clear KX0
    generalize (((((w1.alloc (.cells #[.int .i64 0, .int .i64 0, .int .i64 0, .slice none 0 0] 61)).drewN (1 + n2)).setCell ⟨w.heap.size + 1, 0, none⟩ (.int .i64 fam)).setCell ⟨w.heap.size + 1, 1, none⟩ (.int .i64 src)).setCell ⟨w.heap.size + 1, 2, none⟩ (.int .i64 scp)).setCell ⟨w.heap.size + 1, 3, none⟩ (.slice none 0 0) = W3 at *
    have KZ := HZ0.out.below BW
    have B3 := hid (grown_on HB0.out BW)
    have V3 := hid BW
    have x0 := KX.cell (i := 0) rfl
    have x1 := KX.cell (i := 1) rfl
    have x2 := KX.cell (i := 2) rfl
    have x3 := KX.cell (i := 3) rfl
    have z0 := KZ.cell (i := 0) rfl
    have z1 := KZ.cell (i := 1) rfl
    have z2 := KZ.cell (i := 2) rfl
    have z3 := KZ.cell (i := 3) rfl
    have f0 := KZ.frozen 0
    have f1 := KZ.frozen 1
    have f2 := KZ.frozen 2
    have f3 := KZ.frozen 3
    have g3 := KX.frozen 3
    have QX := hid KX
    have QZ := hid KZ
    clear KX KZ BW
    go_wp2_with fail
    refine (wide2_at fam W3).mono ?_
    rintro e w' ⟨rfl, rfl⟩
    have hws := wide_small fam
    obtain ⟨sz, hsz⟩ : ∃ sz, wideN fam = sz := ⟨_, rfl⟩
    have HSZ := hid hsz
    have hn0 : (((sz : Nat) : Int) == 0) = false := by have := HWn0; rw [HF.out, hsz] at this; simp; omega
    have hsrc8 : 8 * ((sz : Nat) : Int) < src := by have := hbig; rw [HF.out, HS.out, hsz] at this; exact this
    rw [hsz] at hws ⊢
    clear hsz
    have HE : Hid (decE b = 6) := hid (by unfold decE; rw [if_neg (by omega), if_pos (Or.inr hnf)])
    clear hnf HWn0
    go_wp2_with fail
    refine bodyPost_ret (results_sof _ _ w.heap.size _ _ _ _ _ rfl rfl (QZ.out.put4 _ _ _ _)) rfl ?_
    exact SofP.bad HE.out (by decide) rfl (below_put4 B3.out (Nat.le_refl _) _ _ _ _)

set_option maxHeartbeats 4000000 in
set_option maxRecDepth 100000 in
theorem sof_unfit_b {bk off c l : Nat} (b : List Int) (w : World) (h : Bys w (some ⟨bk, off, none⟩) c b) (hl : b.length = l) (h4 : 4 ≤ b.length) (HWn0 : ¬ wideN (snOf b).fam = 0) (hnf : ¬ fitN (snOf b) (wideN (snOf b).fam)) (hsm : ¬ 8 * ((wideN (snOf b).fam : Nat) : Int) < (snOf b).src) (hbig : 8 * ((wideN (snOf b).fam : Nat) : Int) < (snOf b).scp) :
    Calls Tryd.prog 31 #[.slice (some ⟨bk, off, none⟩) l c] w (SofP b w) := by
  have hlen : b.length ≤ 200000000000000 := h.2.1
  have hbs := h.2.2.1
  have hlc : b.length ≤ c := h.1
  have B0 := (Below.refl w.heap.size w).alloc (Nat.le_refl _) (.cells #[.int .i64 0, .int .i64 0, .int .i64 0, .slice none 0 0] 61)
  have Z0 := Bl.new 61 w #[.int .i64 0, .int .i64 0, .int .i64 0, .slice none 0 0]
  obtain ⟨w1, hw1⟩ : ∃ w1, w1 = w.alloc (.cells #[.int .i64 0, .int .i64 0, .int .i64 0, .slice none 0 0] 61) := ⟨_, rfl⟩
  have hsz1 : w1.heap.size = w.heap.size + 1 := by rw [hw1]; simp
  rw [← hw1] at B0 Z0
  have h1 := h.below B0
  obtain ⟨_, _, _, hd⟩ := h1
  rcases hd with hd | ⟨bk', off', e', hbk, hq⟩
  · rw [hd] at h4; simp at h4
  cases e'
  have HB00 := B0
  have HP : Hid (∀ u, Below w1.heap.size w1 u → Calls Tryd.prog 35 #[.slice (some ⟨bk, off, none⟩) l c, .int .i64 0] u fun e u' => e = .returned (.int .i64 (snOf b).fam) ∧ ∃ n, u' = u.drewN n) := by
    refine hid fun u hu => ?_
    have hB : Bys u (some ⟨bk, off, none⟩) c b := h.below (HB00.trans (hu.mono HB00.size))
    exact pair_drawn b _ u hB hl (by omega) (pair_num (by omega))
  have hc2 := hq 2 (by omega)
  have hc3 := hq 3 (by omega)
  have e2 : b.getD 2 0 = (snOf b).src := rfl
  have e3 : b.getD 3 0 = (snOf b).scp := rfl
  rw [e2] at hc2
  rw [e3] at hc3
  have r2 : 0 ≤ (snOf b).src ∧ (snOf b).src ≤ 255 := getD_byte hbs 2
  have r3 : 0 ≤ (snOf b).scp ∧ (snOf b).scp ≤ 255 := getD_byte hbs 3
  obtain ⟨r20, r21⟩ := r2
  obtain ⟨r30, r31⟩ := r3
  have HB0 := hid B0
  have HZ0 := hid Z0
  have HQ := hid hq
  have HW1 := hid hw1
  have j2 : (2 : Int) ≤ (c : Int) := by omega
  have j3 : (2 : Int) < (l : Int) := by omega
  have j4 : (3 : Int) < (l : Int) := by omega
  have j5 : ¬ (l : Int) < 4 := by omega
  have PK : Hid (∀ u, Below w1.heap.size w1 u → u.cell? ⟨bk, off + 2, none⟩ = some (.int .u8 (snOf b).src) ∧ u.cell? ⟨bk, off + 3, none⟩ = some (.int .u8 (snOf b).scp) ∧ Below w1.heap.size w1 u) :=
    hid fun u hu => ⟨by rw [hu.cell (p := ⟨bk, off + 2, none⟩) hbk]; exact hc2, by rw [hu.cell (p := ⟨bk, off + 3, none⟩) hbk]; exact hc3, hu⟩
  obtain ⟨fam, hfam⟩ : ∃ fam, (snOf b).fam = fam := ⟨_, rfl⟩
  obtain ⟨src, hsrc⟩ : ∃ src, (snOf b).src = src := ⟨_, rfl⟩
  obtain ⟨scp, hscp⟩ : ∃ scp, (snOf b).scp = scp := ⟨_, rfl⟩
  rw [hfam] at HP
  rw [hsrc, hscp] at PK
  rw [hsrc] at r20 r21
  rw [hscp] at r30 r31
  have wr2 := wrap_i64 src r20 (by omega)
  have wr3 := wrap_i64 scp r30 (by omega)
  have HF := hid hfam
  have HS := hid hsrc
  have HC := hid hscp
  clear hc2 hc3 e2 e3 hq B0 Z0 hfam hsrc hscp hw1
  go_enter Tryd.func31, Tryd.ntmps31
  go_wp2_with fail
  rw [← HW1.out]
  go_region_held3 (fun u => u.cell? ⟨bk, off + 2, none⟩ = some (.int .u8 src) ∧ u.cell? ⟨bk, off + 3, none⟩ = some (.int .u8 scp) ∧ Below w1.heap.size w1 u) (with_reducible (first | assumption | (refine PK.out _ ?_; first | exact Below.drew (Below.refl _ _) | exact below_drewN (Below.drew (Below.refl _ _)) _ | exact ((Below.refl _ _).alloc (Nat.le_refl _) _).drew | exact below_drewN ((Below.refl _ _).alloc (Nat.le_refl _) _).drew _ | exact belowx_dc _ _ | exact belowx_da _ _ _ | exact belowx_db _ _ _ | exact below_put4 (belowx_db _ _ _) (Nat.le_of_eq hsz1) _ _ _ _ | exact below_drewN ((Below.refl _ _).alloc (Nat.le_refl _) _) _)))
    (first
      | (go_at_call 35; refine (HP.out _ ?_).mono ?_; (first | assumption | exact Below.drew (Below.refl _ _) | exact ((Below.refl _ _).alloc (Nat.le_refl _) _).drew); rintro e w2 ⟨rfl, n2, rfl⟩))
  · have KX : Bl 61 ((w1.drewN (1 + n2)).alloc (.cells #[.int .i64 fam, .int .i64 src, .int .i64 scp, .slice none 0 0] 61)) (w.heap.size + 1) #[.int .i64 fam, .int .i64 src, .int .i64 scp, .slice none 0 0] := by rw [← hsz1]; exact Bl.new 61 (w1.drewN (1 + n2)) _
    have BW : Below w1.heap.size w1 ((w1.drewN (1 + n2)).alloc (.cells #[.int .i64 fam, .int .i64 src, .int .i64 scp, .slice none 0 0] 61)) := belowx_da _ _ _
    generalize (w1.drewN (1 + n2)).alloc (.cells #[.int .i64 fam, .int .i64 src, .int .i64 scp, .slice none 0 0] 61) = W3 at *
    have KZ := HZ0.out.below BW
    have B3 := hid (grown_on HB0.out BW)
    have V3 := hid BW
    have x0 := KX.cell (i := 0) rfl
    have x1 := KX.cell (i := 1) rfl
    have x2 := KX.cell (i := 2) rfl
    have x3 := KX.cell (i := 3) rfl
    have z0 := KZ.cell (i := 0) rfl
    have z1 := KZ.cell (i := 1) rfl
    have z2 := KZ.cell (i := 2) rfl
    have z3 := KZ.cell (i := 3) rfl
    have f0 := KZ.frozen 0
    have f1 := KZ.frozen 1
    have f2 := KZ.frozen 2
    have f3 := KZ.frozen 3
    have g3 := KX.frozen 3
    have QX := hid KX
    have QZ := hid KZ
    clear KX KZ BW
    go_wp2_with fail
    refine (wide2_at fam W3).mono ?_
    rintro e w' ⟨rfl, rfl⟩
    have hws := wide_small fam
    obtain ⟨sz, hsz⟩ : ∃ sz, wideN fam = sz := ⟨_, rfl⟩
    have HSZ := hid hsz
    have hn0 : (((sz : Nat) : Int) == 0) = false := by have := HWn0; rw [HF.out, hsz] at this; simp; omega
    have hsrc8 : ¬ 8 * ((sz : Nat) : Int) < src := by have := hsm; rw [HF.out, HS.out, hsz] at this; omega
    have hscp8 : 8 * ((sz : Nat) : Int) < scp := by have := hbig; rw [HF.out, HC.out, hsz] at this; omega
    rw [hsz] at hws ⊢
    clear hsz
    have HE : Hid (decE b = 6) := hid (by unfold decE; rw [if_neg (by omega), if_pos (Or.inr hnf)])
    clear hnf HWn0
    go_wp2_with fail
    refine bodyPost_ret (results_sof _ _ w.heap.size _ _ _ _ _ rfl rfl (QZ.out.put4 _ _ _ _)) rfl ?_
    exact SofP.bad HE.out (by decide) rfl (below_put4 B3.out (Nat.le_refl _) _ _ _ _)
  · have KX0 : Bl 61 ((w1.alloc (.cells #[.int .i64 0, .int .i64 0, .int .i64 0, .slice none 0 0] 61)).drewN (1 + n2)) (w.heap.size + 1) #[.int .i64 0, .int .i64 0, .int .i64 0, .slice none 0 0] := by rw [← hsz1]; exact (Bl.new 61 w1 _).drewN _
    have KX : Bl 61 ((((((w1.alloc (.cells #[.int .i64 0, .int .i64 0, .int .i64 0, .slice none 0 0] 61)).drewN (1 + n2)).setCell ⟨w.heap.size + 1, 0, none⟩ (.int .i64 fam)).setCell ⟨w.heap.size + 1, 1, none⟩ (.int .i64 src)).setCell ⟨w.heap.size + 1, 2, none⟩ (.int .i64 scp)).setCell ⟨w.heap.size + 1, 3, none⟩ (.slice none 0 0)) (w.heap.size + 1) #[.int .i64 fam, .int .i64 src, .int .i64 scp, .slice none 0 0] := KX0.put4 _ _ _ _
    have BW : Below w1.heap.size w1 ((((((w1.alloc (.cells #[.int .i64 0, .int .i64 0, .int .i64 0, .slice none 0 0] 61)).drewN (1 + n2)).setCell ⟨w.heap.size + 1, 0, none⟩ (.int .i64 fam)).setCell ⟨w.heap.size + 1, 1, none⟩ (.int .i64 src)).setCell ⟨w.heap.size + 1, 2, none⟩ (.int .i64 scp)).setCell ⟨w.heap.size + 1, 3, none⟩ (.slice none 0 0)) := below_put4 (belowx_db _ _ _) (Nat.le_of_eq hsz1) _ _ _ _
    clear KX0
    generalize (((((w1.alloc (.cells #[.int .i64 0, .int .i64 0, .int .i64 0, .slice none 0 0] 61)).drewN (1 + n2)).setCell ⟨w.heap.size + 1, 0, none⟩ (.int .i64 fam)).setCell ⟨w.heap.size + 1, 1, none⟩ (.int .i64 src)).setCell ⟨w.heap.size + 1, 2, none⟩ (.int .i64 scp)).setCell ⟨w.heap.size + 1, 3, none⟩ (.slice none 0 0) = W3 at *
    have KZ := HZ0.out.below BW
    have B3 := hid (grown_on HB0.out BW)
    have V3 := hid BW
    have x0 := KX.cell (i := 0) rfl
    have x1 := KX.cell (i := 1) rfl
    have x2 := KX.cell (i := 2) rfl
    have x3 := KX.cell (i := 3) rfl
    have z0 := KZ.cell (i := 0) rfl
    have z1 := KZ.cell (i := 1) rfl
    have z2 := KZ.cell (i := 2) rfl
    have z3 := KZ.cell (i := 3) rfl
    have f0 := KZ.frozen 0
    have f1 := KZ.frozen 1
    have f2 := KZ.frozen 2
    have f3 := KZ.frozen 3
    have g3 := KX.frozen 3
    have QX := hid KX
    have QZ := hid KZ
    clear KX KZ BW
    go_wp2_with fail
    refine (wide2_at fam W3).mono ?_
    rintro e w' ⟨rfl, rfl⟩
    have hws := wide_small fam
    obtain ⟨sz, hsz⟩ : ∃ sz, wideN fam = sz := ⟨_, rfl⟩
    have HSZ := hid hsz
    have hn0 : (((sz : Nat) : Int) == 0) = false := by have := HWn0; rw [HF.out, hsz] at this; simp; omega
    have hsrc8 : ¬ 8 * ((sz : Nat) : Int) < src := by have := hsm; rw [HF.out, HS.out, hsz] at this; omega
    have hscp8 : 8 * ((sz : Nat) : Int) < scp := by have := hbig; rw [HF.out, HC.out, hsz] at this; omega
    rw [hsz] at hws ⊢
    clear hsz
    have HE : Hid (decE b = 6) := hid (by unfold decE; rw [if_neg (by omega), if_pos (Or.inr hnf)])
    clear hnf HWn0
    go_wp2_with fail
    refine bodyPost_ret (results_sof _ _ w.heap.size _ _ _ _ _ rfl rfl (QZ.out.put4 _ _ _ _)) rfl ?_
    exact SofP.bad HE.out (by decide) rfl (below_put4 B3.out (Nat.le_refl _) _ _ _ _)

end Go.Proofs.YtgfplkhcihcagaaDoor
