/-
  The walk of the law BucketTells. Written by genbt.py.
-/
import Derived.Test.YtlmhcjkkdgdbjaaDoorBkRef
import Derived.Test.YtlmhcjkkdgdbjaaDoorForkT
import Derived.Deep.CutRange
namespace Go.Proofs.YtlmhcjkkdgdbjaaDoor.Bu
open Go.RowKit Go.Deep

theorem glob_far {w : World} (h : Glob w) {p : Addr} (hp : 0 < p.block) (u : Value) : Glob (w.setCell p u) := by
  unfold Glob at *
  rw [((Below.refl 1 w).setCell (p := p) (by omega) u).cell (p := ⟨0, 0, none⟩) (by simp)]
  exact h

theorem glob_put4 {w : World} (h : Glob w) {b : Nat} (hb : 0 < b) (x0 x1 x2 x3 : Value) : Glob ((((w.setCell ⟨b, 0, none⟩ x0).setCell ⟨b, 1, none⟩ x1).setCell ⟨b, 2, none⟩ x2).setCell ⟨b, 3, none⟩ x3) :=
  glob_far (glob_far (glob_far (glob_far h (p := ⟨b, 0, none⟩) hb x0) (p := ⟨b, 1, none⟩) hb x1) (p := ⟨b, 2, none⟩) hb x2) (p := ⟨b, 3, none⟩) hb x3

/-- Worlds in which all old blocks stay. -/
structure Od (w : World) where
  val : World
  keeps : Below w.heap.size w val

set_option maxHeartbeats 4000000 in
set_option maxRecDepth 100000 in
theorem btells_walk (b : Bk) (now n : Int) (w : World) (_hb : Wds b) (hn : wd now) (hm : wd n) (hg : Glob w) :
    Calls Tryd.prog 3 #[bkV b, .int .i64 now, .int .i64 n] w fun e w' => e = .returned (.bool true) ∧ Below w.heap.size w w' := by
  have W0 := (Below.refl w.heap.size w).alloc (Nat.le_refl _) (.cells #[.int .i64 b.rate, .int .i64 b.burst, .int .i64 b.has, .int .i64 b.at'] 23)
  have KB := hid (Bl.new 23 w #[.int .i64 b.rate, .int .i64 b.burst, .int .i64 b.has, .int .i64 b.at'])
  have HG := hid (hg.below W0)
  have WW := hid W0
  have hm' := hm
  unfold wd at hm'
  clear W0 hg
  go_enter Tryd.func3, Tryd.ntmps3
  go_upto_region 1 with fail
  generalize w.alloc (.cells #[.int .i64 b.rate, .int .i64 b.burst, .int .i64 b.has, .int .i64 b.at'] 23) = w0 at *
  go_cut [7] from 18 to 101 (fun v wx => v = .bool true ∧ Below w0.heap.size w0 wx)
  case first =>
    obtain ⟨x0, x1, x2, x3⟩ := blFour KB.out
    have l0 : ∀ s' : Od w0, s'.val.cell? ⟨w.heap.size, 0, none⟩ = some (.int .i64 b.rate) := fun s' => (s'.keeps.cell (p := ⟨w.heap.size, 0, none⟩) KB.out.lt).trans x0
    have l1 : ∀ s' : Od w0, s'.val.cell? ⟨w.heap.size, 1, none⟩ = some (.int .i64 b.burst) := fun s' => (s'.keeps.cell (p := ⟨w.heap.size, 1, none⟩) KB.out.lt).trans x1
    have l2 : ∀ s' : Od w0, s'.val.cell? ⟨w.heap.size, 2, none⟩ = some (.int .i64 b.has) := fun s' => (s'.keeps.cell (p := ⟨w.heap.size, 2, none⟩) KB.out.lt).trans x2
    have l3 : ∀ s' : Od w0, s'.val.cell? ⟨w.heap.size, 3, none⟩ = some (.int .i64 b.at') := fun s' => (s'.keeps.cell (p := ⟨w.heap.size, 3, none⟩) KB.out.lt).trans x3
    have hNe : Nonempty (Od w0) := ⟨⟨w0, Below.refl _ _⟩⟩
    clear x0 x1 x2 x3
    obtain ⟨k, hk⟩ : ∃ k, okE b = k := ⟨_, rfl⟩
    have HK := hid hk
    clear hk
    refine wp_region_pt (.qs [0, 2] (.one 1 (.one 3 (.one 4 (.one 5 .nil))))) (fun u => ∃ s' : Od w0, u = s'.val) (by kernel_rfl) (by kernel_rfl) ?_
    refine ptL_qs ⟨⟨w0.drew, (Below.refl _ _).drew⟩, rfl⟩ ?_
    change wpQuiet _ _ _ _ [_, _] _
    repeat (go_big_quiet_step (fail))
    refine wpQuiet_nil ?_
    have HB := (Below.refl w0.heap.size w0).drew
    refine stepL_at (by rfl) fun K Q' hK => ?_
    go_simp
    refine (bcheck_any b (errV k) _ (by rw [HK.out])).mono ?_
    rintro e u1 ⟨rfl, q⟩
    replace HB := HB.trans (q.mono HB.size)
    refine hK _ _ (fun _ => ⟨⟨_, HB⟩, rfl⟩) ?_
    clear hK q
    refine stepL_at (by rfl) fun K Q' hK => ?_
    go_simp
    refine (bfault_any b k _ HK.out).mono ?_
    rintro e u2 ⟨rfl, q⟩
    replace HB := HB.trans (q.mono HB.size)
    refine hK _ _ (fun _ => ⟨⟨_, HB⟩, rfl⟩) ?_
    clear hK q
    refine stepL_at (by rfl) fun K Q' hK => ?_
    go_simp
    refine (error_at k k (errV k) _ (HG.out.below HB) rfl rfl).mono ?_
    rintro e u3 ⟨rfl, q⟩
    replace HB := HB.trans (q.mono HB.size)
    refine hK _ _ (fun _ => ⟨⟨_, HB⟩, rfl⟩) ?_
    clear hK q
    refine stepL_at (by rfl) fun K Q' hK => ?_
    go_simp
    refine hK _ _ (fun _ => ⟨⟨_, HB⟩, rfl⟩) ?_
    clear hK
    refine ptL_nil ?_
    go_wp2
    go_meet
    exact ⟨rfl, HB⟩
  case rest =>
    obtain ⟨rfl, q⟩ := hcut
    replace KB := hid (KB.out.below q)
    replace WW := hid (grown_on WW.out q)
    replace HG := hid (HG.out.below q)
    clear q
    obtain ⟨r, hr⟩ : ∃ r, fillR b now = r := ⟨_, rfl⟩
    have HR := hid hr
    clear hr
    by_cases h1 : fits b now
    · have K1 : Hid (fillE b now = 0) := hid (by unfold fillE; rw [if_pos h1])
      have E1 : Hid (errV (fillE b now) = .nilIface) := hid (by rw [K1.out]; rfl)
      have RF : Hid (r = fill b now) := hid (by rw [← HR.out]; unfold fillR; rw [if_pos h1])
      have RH : Hid (hasAt b now = r.has) := hid (by rw [RF.out]; rfl)
      obtain ⟨g0, g1, g2⟩ := hasAt_bounds h1
      have g3 := h1.1.2.1.2
      have r0 : 0 ≤ r.has ∧ r.has ≤ 2147483647 := by have := RH.out; omega
      obtain ⟨r0, r1⟩ := r0
      clear g0 g1 g2 g3
      have F1 := hid h1
      clear h1
      go_upto_region 2 with fail
      obtain ⟨c0, c1, c2, c3⟩ := blFour KB.out
      go_wp2_with fail
      refine (rfil_any b now r 0 _ hn HR.out K1.out).mono ?_
      rintro e u2 ⟨rfl, q⟩
      clear c0 c1 c2 c3
      have NE : Hid (w.heap.size < u2.heap.size) := hid (KB.out.below q).lt
      have b2 := (own4 u2 r).2
      have k2 := (own4 u2 r).1
      replace KB := hid ((KB.out.below q).below b2)
      replace WW := hid ((grown_on WW.out q).trans (b2.mono (grown_on WW.out q).size))
      replace HG := hid ((HG.out.below q).below b2)
      have KW := hid k2
      clear k2 b2 q
      go_upto_region 3 with fail
      generalize u2.alloc (.cells #[.int .i64 r.rate, .int .i64 r.burst, .int .i64 r.has, .int .i64 r.at'] 23) = w2 at *
      obtain ⟨c0, c1, c2, c3⟩ := blFour KB.out
      go_wp2_with fail
      refine (bfill_any b now r .nilIface _ hn HR.out E1.out).mono ?_
      rintro e u3 ⟨rfl, q⟩
      clear c0 c1 c2 c3
      have b2 := (own4 u3 r).2
      have k2 := (own4 u3 r).1
      replace KB := hid ((KB.out.below q).below b2)
      replace KW := hid ((KW.out.below q).below b2)
      replace WW := hid ((grown_on WW.out q).trans (b2.mono (grown_on WW.out q).size))
      replace HG := hid ((HG.out.below q).below b2)
      have KG := hid k2
      clear k2 b2 q
      go_upto_region 4 with fail
      generalize u3.alloc (.cells #[.int .i64 r.rate, .int .i64 r.burst, .int .i64 r.has, .int .i64 r.at'] 23) = w3 at *
      go_wp2_with fail
      refine (error_at 0 0 .nilIface _ HG.out (by rfl) rfl).mono ?_
      rintro e v1 ⟨rfl, q⟩
      replace KB := hid (KB.out.below q)
      replace KW := hid (KW.out.below q)
      replace KG := hid (KG.out.below q)
      replace WW := hid (grown_on WW.out q)
      replace HG := hid (HG.out.below q)
      clear q
      obtain ⟨a0, a1, a2, a3⟩ := blFour KW.out
      obtain ⟨d0, d1, d2, d3⟩ := blFour KG.out
      go_upto_region 7 with fail
      clear a0 a1 a2 a3 d0 d1 d2 d3 KG
      by_cases h2 : n < 0
      · have EE : Hid (errV (takeE b now n) = .iface 28 (.int .i64 6)) := hid (by unfold takeE; rw [if_neg (by omega)]; rfl)
        have ER : Hid (takeR b now n = noB) := hid (by unfold takeR; rw [if_neg (by omega)])
        have EI : Hid (takeI b now n = false) := hid (by unfold takeI; rw [if_neg (by omega)])
        obtain ⟨y0, y1, y2, y3⟩ := blFroz KW.out
        obtain ⟨d0, d1, d2, d3⟩ := blFour KW.out
        have KW2 := hid (blPut4 KW.out (.int .i64 0) (.int .i64 0) (.int .i64 0) (.int .i64 0))
        replace KB := hid (blFar4 (g := u2.heap.size) (b := w.heap.size) KB.out (by have := NE.out; omega) (.int .i64 0) (.int .i64 0) (.int .i64 0) (.int .i64 0))
        replace WW := hid (belowPut4 WW.out (b := u2.heap.size) (by have := NE.out; omega) (.int .i64 0) (.int .i64 0) (.int .i64 0) (.int .i64 0))
        replace HG := hid (glob_put4 (b := u2.heap.size) HG.out (by have := NE.out; omega) (.int .i64 0) (.int .i64 0) (.int .i64 0) (.int .i64 0))
        replace KW := KW2
        clear KW2
        go_upto_region 10 with fail
        clear y0 y1 y2 y3 d0 d1 d2 d3
        generalize (((v1.setCell ⟨u2.heap.size, 0, none⟩ (.int .i64 0)).setCell ⟨u2.heap.size, 1, none⟩ (.int .i64 0)).setCell ⟨u2.heap.size, 2, none⟩ (.int .i64 0)).setCell ⟨u2.heap.size, 3, none⟩ (.int .i64 0) = v5 at *
        obtain ⟨d0, d1, d2, d3⟩ := blFour KW.out
        go_upto_region 13 with fail
        clear d0 d1 d2 d3
        obtain ⟨c0, c1, c2, c3⟩ := blFour KB.out
        go_wp2_with fail
        refine (btake_any b now n noB false (.iface 28 (.int .i64 6)) _ hn hm ER.out EI.out EE.out).mono ?_
        rintro e u6 ⟨rfl, q⟩
        clear c0 c1 c2 c3
        have b2 := (own4 u6 noB).2
        have k2 := (own4 u6 noB).1
        replace KB := hid ((KB.out.below q).below b2)
        replace KW := hid ((KW.out.below q).below b2)
        replace WW := hid ((grown_on WW.out q).trans (b2.mono (grown_on WW.out q).size))
        replace HG := hid ((HG.out.below q).below b2)
        have KX := hid k2
        clear k2 b2 q
        go_upto_region 14 with fail
        generalize u6.alloc (.cells #[.int .i64 noB.rate, .int .i64 noB.burst, .int .i64 noB.has, .int .i64 noB.at'] 23) = w6 at *
        go_wp2_with fail
        refine (error_at 6 6 (.iface 28 (.int .i64 6)) _ HG.out (by rfl) rfl).mono ?_
        rintro e v1 ⟨rfl, q⟩
        replace KB := hid (KB.out.below q)
        replace KW := hid (KW.out.below q)
        replace KX := hid (KX.out.below q)
        replace WW := hid (grown_on WW.out q)
        replace HG := hid (HG.out.below q)
        clear q
        have HFF := hid (bfill_any ⟨2, 9, 0, 0⟩ 3 ⟨2, 9, 6, 3⟩ .nilIface v1 (by unfold wd; omega) (by unfold fillR; rw [if_pos (by decide)]; rfl) (by unfold fillE; rw [if_pos (by decide)]; rfl))
        go_wp2_with fail
        refine HFF.out.mono ?_
        rintro e v2 ⟨rfl, q⟩
        have b2 := (own4 v2 ⟨2, 9, 6, 3⟩).2
        have k2 := (own4 v2 ⟨2, 9, 6, 3⟩).1
        replace KX := hid ((KX.out.below q).below b2)
        replace KW := hid ((KW.out.below q).below b2)
        replace WW := hid ((grown_on WW.out q).trans (b2.mono (grown_on WW.out q).size))
        have KF := hid k2
        clear q b2 k2 HFF KB HG
        go_upto_region 16 with fail
        generalize v2.alloc (.cells #[.int .i64 2, .int .i64 9, .int .i64 6, .int .i64 3] 23) = v3 at *
        obtain ⟨a0, a1, a2, a3⟩ := blFour KX.out
        obtain ⟨d0, d1, d2, d3⟩ := blFour KW.out
        obtain ⟨_, _, f2, _⟩ := blFour KF.out
        go_wp2_with fail
        go_ret
        exact ⟨rfl, WW.out⟩
      · have hfn : fits b now ∧ 0 ≤ n := ⟨F1.out, by omega⟩
        have EE : Hid (errV (takeE b now n) = .nilIface) := hid (by unfold takeE; rw [if_pos hfn]; rfl)
        by_cases h3 : n ≤ r.has
        · have EI : Hid (takeI b now n = true) := hid (by unfold takeI isT; rw [if_pos hfn, RH.out]; exact decide_eq_true h3)
          have ER : Hid (takeR b now n = ⟨r.rate, r.burst, r.has - n, r.at'⟩) := hid (by
            unfold takeR take
            rw [if_pos hfn, if_pos (by rw [RH.out]; exact h3), RH.out, RF.out]
            rfl)
          clear hfn
          obtain ⟨y0, y1, y2, y3⟩ := blFroz KW.out
          obtain ⟨d0, d1, d2, d3⟩ := blFour KW.out
          have KW2 : Hid (Bl 23 (v1.setCell ⟨u2.heap.size, 2, none⟩ (.int .i64 (r.has - n))) u2.heap.size #[.int .i64 r.rate, .int .i64 r.burst, .int .i64 (r.has - n), .int .i64 r.at']) := hid (KW.out.set 2 (.int .i64 (r.has - n)))
          replace KB := hid (KB.out.far (p := ⟨u2.heap.size, 2, none⟩) (by have := NE.out; simp only; omega) (.int .i64 (r.has - n)))
          replace WW := hid (WW.out.setCell (p := ⟨u2.heap.size, 2, none⟩) (by have := NE.out; simp only; omega) (.int .i64 (r.has - n)))
          replace HG := hid (glob_far HG.out (p := ⟨u2.heap.size, 2, none⟩) (by have := NE.out; simp only; omega) (.int .i64 (r.has - n)))
          replace KW := KW2
          clear KW2
          go_upto_region 13 with fail
          clear y0 y1 y2 y3 d0 d1 d2 d3
          generalize v1.setCell ⟨u2.heap.size, 2, none⟩ (.int .i64 (r.has - n)) = v5 at *
          obtain ⟨c0, c1, c2, c3⟩ := blFour KB.out
          go_wp2_with fail
          refine (btake_any b now n ⟨r.rate, r.burst, r.has - n, r.at'⟩ true .nilIface _ hn hm ER.out EI.out EE.out).mono ?_
          rintro e u6 ⟨rfl, q⟩
          clear c0 c1 c2 c3
          have b2 := (own4 u6 ⟨r.rate, r.burst, r.has - n, r.at'⟩).2
          have k2 := (own4 u6 ⟨r.rate, r.burst, r.has - n, r.at'⟩).1
          replace KB := hid ((KB.out.below q).below b2)
          replace KW := hid ((KW.out.below q).below b2)
          replace WW := hid ((grown_on WW.out q).trans (b2.mono (grown_on WW.out q).size))
          replace HG := hid ((HG.out.below q).below b2)
          have KX := hid k2
          clear k2 b2 q
          go_upto_region 14 with fail
          generalize u6.alloc (.cells #[.int .i64 r.rate, .int .i64 r.burst, .int .i64 (r.has - n), .int .i64 r.at'] 23) = w6 at *
          go_wp2_with fail
          refine (error_at 0 0 .nilIface _ HG.out (by rfl) rfl).mono ?_
          rintro e v1 ⟨rfl, q⟩
          replace KB := hid (KB.out.below q)
          replace KW := hid (KW.out.below q)
          replace KX := hid (KX.out.below q)
          replace WW := hid (grown_on WW.out q)
          replace HG := hid (HG.out.below q)
          clear q
          have HFF := hid (bfill_any ⟨2, 9, 0, 0⟩ 3 ⟨2, 9, 6, 3⟩ .nilIface v1 (by unfold wd; omega) (by unfold fillR; rw [if_pos (by decide)]; rfl) (by unfold fillE; rw [if_pos (by decide)]; rfl))
          go_wp2_with fail
          refine HFF.out.mono ?_
          rintro e v2 ⟨rfl, q⟩
          have b2 := (own4 v2 ⟨2, 9, 6, 3⟩).2
          have k2 := (own4 v2 ⟨2, 9, 6, 3⟩).1
          replace KX := hid ((KX.out.below q).below b2)
          replace KW := hid ((KW.out.below q).below b2)
          replace WW := hid ((grown_on WW.out q).trans (b2.mono (grown_on WW.out q).size))
          have KF := hid k2
          clear q b2 k2 HFF KB HG
          go_upto_region 16 with fail
          generalize v2.alloc (.cells #[.int .i64 2, .int .i64 9, .int .i64 6, .int .i64 3] 23) = v3 at *
          obtain ⟨a0, a1, a2, a3⟩ := blFour KX.out
          obtain ⟨d0, d1, d2, d3⟩ := blFour KW.out
          obtain ⟨_, _, f2, _⟩ := blFour KF.out
          go_wp2_with fail
          go_ret
          exact ⟨rfl, WW.out⟩
        · have EI : Hid (takeI b now n = false) := hid (by unfold takeI isT; rw [if_pos hfn, RH.out]; exact decide_eq_false h3)
          have ER : Hid (takeR b now n = r) := hid (by
            unfold takeR take
            rw [if_pos hfn, if_neg (by rw [RH.out]; exact h3), RF.out])
          clear hfn
          obtain ⟨d0, d1, d2, d3⟩ := blFour KW.out
          go_upto_region 13 with fail
          clear d0 d1 d2 d3
          obtain ⟨c0, c1, c2, c3⟩ := blFour KB.out
          go_wp2_with fail
          refine (btake_any b now n r false .nilIface _ hn hm ER.out EI.out EE.out).mono ?_
          rintro e u6 ⟨rfl, q⟩
          clear c0 c1 c2 c3
          have b2 := (own4 u6 r).2
          have k2 := (own4 u6 r).1
          replace KB := hid ((KB.out.below q).below b2)
          replace KW := hid ((KW.out.below q).below b2)
          replace WW := hid ((grown_on WW.out q).trans (b2.mono (grown_on WW.out q).size))
          replace HG := hid ((HG.out.below q).below b2)
          have KX := hid k2
          clear k2 b2 q
          go_upto_region 14 with fail
          generalize u6.alloc (.cells #[.int .i64 r.rate, .int .i64 r.burst, .int .i64 r.has, .int .i64 r.at'] 23) = w6 at *
          go_wp2_with fail
          refine (error_at 0 0 .nilIface _ HG.out (by rfl) rfl).mono ?_
          rintro e v1 ⟨rfl, q⟩
          replace KB := hid (KB.out.below q)
          replace KW := hid (KW.out.below q)
          replace KX := hid (KX.out.below q)
          replace WW := hid (grown_on WW.out q)
          replace HG := hid (HG.out.below q)
          clear q
          have HFF := hid (bfill_any ⟨2, 9, 0, 0⟩ 3 ⟨2, 9, 6, 3⟩ .nilIface v1 (by unfold wd; omega) (by unfold fillR; rw [if_pos (by decide)]; rfl) (by unfold fillE; rw [if_pos (by decide)]; rfl))
          go_wp2_with fail
          refine HFF.out.mono ?_
          rintro e v2 ⟨rfl, q⟩
          have b2 := (own4 v2 ⟨2, 9, 6, 3⟩).2
          have k2 := (own4 v2 ⟨2, 9, 6, 3⟩).1
          replace KX := hid ((KX.out.below q).below b2)
          replace KW := hid ((KW.out.below q).below b2)
          replace WW := hid ((grown_on WW.out q).trans (b2.mono (grown_on WW.out q).size))
          have KF := hid k2
          clear q b2 k2 HFF KB HG
          go_upto_region 16 with fail
          generalize v2.alloc (.cells #[.int .i64 2, .int .i64 9, .int .i64 6, .int .i64 3] 23) = v3 at *
          obtain ⟨a0, a1, a2, a3⟩ := blFour KX.out
          obtain ⟨d0, d1, d2, d3⟩ := blFour KW.out
          obtain ⟨_, _, f2, _⟩ := blFour KF.out
          go_wp2_with fail
          go_ret
          exact ⟨rfl, WW.out⟩
    · have K1 : Hid (fillE b now = 6) := hid (by unfold fillE; rw [if_neg h1])
      have E1 : Hid (errV (fillE b now) = .iface 28 (.int .i64 6)) := hid (by rw [K1.out]; rfl)
      have RF : r = noB := by rw [← HR.out]; unfold fillR; rw [if_neg h1]
      have EE : Hid (errV (takeE b now n) = .iface 28 (.int .i64 6)) := hid (by unfold takeE; rw [if_neg (fun q => h1 q.1)]; rfl)
      have ER : Hid (takeR b now n = r) := hid (by unfold takeR; rw [if_neg (fun q => h1 q.1), RF])
      have EI : Hid (takeI b now n = false) := hid (by unfold takeI; rw [if_neg (fun q => h1 q.1)])
      clear RF h1
      go_upto_region 2 with fail
      obtain ⟨c0, c1, c2, c3⟩ := blFour KB.out
      go_wp2_with fail
      refine (rfil_any b now r 6 _ hn HR.out K1.out).mono ?_
      rintro e u2 ⟨rfl, q⟩
      clear c0 c1 c2 c3
      have NE : Hid (w.heap.size < u2.heap.size) := hid (KB.out.below q).lt
      have b2 := (own4 u2 r).2
      have k2 := (own4 u2 r).1
      replace KB := hid ((KB.out.below q).below b2)
      replace WW := hid ((grown_on WW.out q).trans (b2.mono (grown_on WW.out q).size))
      replace HG := hid ((HG.out.below q).below b2)
      have KW := hid k2
      clear k2 b2 q
      go_upto_region 3 with fail
      generalize u2.alloc (.cells #[.int .i64 r.rate, .int .i64 r.burst, .int .i64 r.has, .int .i64 r.at'] 23) = w2 at *
      obtain ⟨c0, c1, c2, c3⟩ := blFour KB.out
      go_wp2_with fail
      refine (bfill_any b now r (.iface 28 (.int .i64 6)) _ hn HR.out E1.out).mono ?_
      rintro e u3 ⟨rfl, q⟩
      clear c0 c1 c2 c3
      have b2 := (own4 u3 r).2
      have k2 := (own4 u3 r).1
      replace KB := hid ((KB.out.below q).below b2)
      replace KW := hid ((KW.out.below q).below b2)
      replace WW := hid ((grown_on WW.out q).trans (b2.mono (grown_on WW.out q).size))
      replace HG := hid ((HG.out.below q).below b2)
      have KG := hid k2
      clear k2 b2 q
      go_upto_region 4 with fail
      generalize u3.alloc (.cells #[.int .i64 r.rate, .int .i64 r.burst, .int .i64 r.has, .int .i64 r.at'] 23) = w3 at *
      go_wp2_with fail
      refine (error_at 6 6 (.iface 28 (.int .i64 6)) _ HG.out (by rfl) rfl).mono ?_
      rintro e v1 ⟨rfl, q⟩
      replace KB := hid (KB.out.below q)
      replace KW := hid (KW.out.below q)
      replace KG := hid (KG.out.below q)
      replace WW := hid (grown_on WW.out q)
      replace HG := hid (HG.out.below q)
      clear q
      obtain ⟨a0, a1, a2, a3⟩ := blFour KW.out
      obtain ⟨d0, d1, d2, d3⟩ := blFour KG.out
      go_upto_region 7 with fail
      clear a0 a1 a2 a3 d0 d1 d2 d3 KG
      obtain ⟨d0, d1, d2, d3⟩ := blFour KW.out
      go_upto_region 13 with fail
      clear d0 d1 d2 d3
      obtain ⟨c0, c1, c2, c3⟩ := blFour KB.out
      go_wp2_with fail
      refine (btake_any b now n r false (.iface 28 (.int .i64 6)) _ hn hm ER.out EI.out EE.out).mono ?_
      rintro e u6 ⟨rfl, q⟩
      clear c0 c1 c2 c3
      have b2 := (own4 u6 r).2
      have k2 := (own4 u6 r).1
      replace KB := hid ((KB.out.below q).below b2)
      replace KW := hid ((KW.out.below q).below b2)
      replace WW := hid ((grown_on WW.out q).trans (b2.mono (grown_on WW.out q).size))
      replace HG := hid ((HG.out.below q).below b2)
      have KX := hid k2
      clear k2 b2 q
      go_upto_region 14 with fail
      generalize u6.alloc (.cells #[.int .i64 r.rate, .int .i64 r.burst, .int .i64 r.has, .int .i64 r.at'] 23) = w6 at *
      go_wp2_with fail
      refine (error_at 6 6 (.iface 28 (.int .i64 6)) _ HG.out (by rfl) rfl).mono ?_
      rintro e v1 ⟨rfl, q⟩
      replace KB := hid (KB.out.below q)
      replace KW := hid (KW.out.below q)
      replace KX := hid (KX.out.below q)
      replace WW := hid (grown_on WW.out q)
      replace HG := hid (HG.out.below q)
      clear q
      have HFF := hid (bfill_any ⟨2, 9, 0, 0⟩ 3 ⟨2, 9, 6, 3⟩ .nilIface v1 (by unfold wd; omega) (by unfold fillR; rw [if_pos (by decide)]; rfl) (by unfold fillE; rw [if_pos (by decide)]; rfl))
      go_wp2_with fail
      refine HFF.out.mono ?_
      rintro e v2 ⟨rfl, q⟩
      have b2 := (own4 v2 ⟨2, 9, 6, 3⟩).2
      have k2 := (own4 v2 ⟨2, 9, 6, 3⟩).1
      replace KX := hid ((KX.out.below q).below b2)
      replace KW := hid ((KW.out.below q).below b2)
      replace WW := hid ((grown_on WW.out q).trans (b2.mono (grown_on WW.out q).size))
      have KF := hid k2
      clear q b2 k2 HFF KB HG
      go_upto_region 16 with fail
      generalize v2.alloc (.cells #[.int .i64 2, .int .i64 9, .int .i64 6, .int .i64 3] 23) = v3 at *
      obtain ⟨a0, a1, a2, a3⟩ := blFour KX.out
      obtain ⟨d0, d1, d2, d3⟩ := blFour KW.out
      obtain ⟨_, _, f2, _⟩ := blFour KF.out
      go_wp2_with fail
      go_ret
      exact ⟨rfl, WW.out⟩

end Go.Proofs.YtlmhcjkkdgdbjaaDoor.Bu
