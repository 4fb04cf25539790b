/-
  The walk of the law BucketBound.
-/
import Derived.Test.YtlmhcjkkdgdbjaaBkB
import Derived.Deep.Cut
import Derived.Deep.CutRange
import Derived.Deep.RegionHeld3
import Derived.BigQuiet
import Derived.Laws.CopyOwn
import Derived.Test.YtlmhcjkkdgdbjaaForkT
namespace Go.Proofs.Ytlmhcjkkdgdbjaa.Bu
open Go.RowKit Go.Deep

theorem ints_cell {w : World} {x : Option Addr} {c : Nat} {xs : List Int} (h : Ints w x c xs) {i : Nat} (hi : i < xs.length) : ∃ b off, x = some ⟨b, off, none⟩ ∧ b < w.heap.size ∧ w.cell? ⟨b, off + i, none⟩ = some (.int .i64 (xs.getD i 0)) := by
  rcases h.2.2.2 with q | ⟨b, off, e, hb, q⟩
  · rw [q] at hi; simp at hi
  · exact ⟨b, off, e, hb, q i hi⟩

/-- Worlds in which all old blocks stay. -/
structure Od (w : World) where
  val : World
  keeps : Below w.heap.size w val

theorem Bl_rowB {t : TypeId} {w : World} {b : Nat} {C : Array Value} (h : Bl t w b C) (C' : Array Value) : Bl t (w.setRow b C') b C' := setRow_heap w b C C' t _ h

/-- What lies behind the call of Take. -/
def Took (w0 : World) (r : Bk) (is : Bool) (vx vi ve : Value) (wx : World) : Prop :=
  ∃ gx, vx = .pointer (some ⟨gx, 0, none⟩) ∧ vi = .bool is ∧ ve = .nilIface ∧ Bl 23 wx gx #[.int .i64 r.rate, .int .i64 r.burst, .int .i64 r.has, .int .i64 r.at'] ∧ w0.heap.size ≤ gx ∧ Below w0.heap.size w0 wx

theorem size_bucket : (Try.prog.info? 23).map (·.size) = some 4 := by kernel_rfl

theorem ints_all {w : World} {x : Option Addr} {c : Nat} {xs : List Int} (h : Ints w x c xs) (hp : 0 < xs.length) : ∃ b off, x = some ⟨b, off, none⟩ ∧ ∀ i, i < xs.length → w.cell? ⟨b, off + i, none⟩ = some (.int .i64 (xs.getD i 0)) := by
  rcases h.2.2.2 with q | ⟨b, off, e, hb, q⟩
  · rw [q] at hp; simp at hp
  · exact ⟨b, off, e, q⟩

theorem sumT_pos {T : List Int} (h : ∀ x ∈ T, 0 ≤ x ∧ x ≤ 2147483647) (k : Nat) : 0 ≤ sumT T k := by
  unfold sumT
  have hd : ∀ x ∈ T.drop k, 0 ≤ x := fun x hx => (h x (List.mem_of_mem_drop hx)).1
  generalize T.drop k = L at *
  induction L with
  | nil => simp
  | cons a l ih =>
    simp only [List.foldr_cons]
    have := hd a List.mem_cons_self
    have := ih fun x hx => hd x (List.mem_cons_of_mem _ hx)
    omega

theorem cell_lt {w : World} {p : Addr} {v : Value} (h : w.cell? p = some v) : p.block < w.heap.size := by
  unfold World.cell? at h
  rcases Nat.lt_or_ge p.block w.heap.size with q | q
  · exact q
  · rw [Array.getElem?_eq_none q] at h; simp at h

/-- One round of the law's inner loop. -/
theorem inner {r : Bk} {la lt : List Int} {m i : Nat} (hB : Bound r la lt) (hok : ok r) (ha : ∀ x ∈ la, 0 ≤ x ∧ x ≤ 2147483647) (ht : ∀ x ∈ lt, 0 ≤ x ∧ x ≤ 2147483647) (hl : la.length = i + 1) (hm : m ≤ i) :
    sumT lt m = sumT lt (m + 1) + lt.getD m 0 ∧ 0 ≤ sumT lt (m + 1) ∧ 0 ≤ lt.getD m 0 ∧ 0 ≤ la.getD m 0 ∧ la.getD m 0 ≤ r.at' ∧ r.at' ≤ 2147483647 ∧ 0 ≤ r.rate * (r.at' - la.getD m 0) ∧ r.rate * (r.at' - la.getD m 0) ≤ 4611686014132420609 ∧ sumT lt m ≤ r.burst + r.rate * (r.at' - la.getD m 0) ∧ 0 ≤ r.burst ∧ r.burst ≤ 2147483647 := by
  obtain ⟨h1, h2, h3⟩ := hB
  obtain ⟨o1, o2, o3, o4, o5⟩ := hok
  have hmt : m < lt.length := by omega
  have hma : m < la.length := by omega
  have e1 : lt.getD m 0 = lt[m] := by rw [List.getD_eq_getElem?_getD, List.getElem?_eq_getElem hmt]; rfl
  have e2 : la.getD m 0 = la[m] := by rw [List.getD_eq_getElem?_getD, List.getElem?_eq_getElem hma]; rfl
  have q := h3 m hma
  have u := sumT_at hmt
  have v := h2 _ (List.getElem_mem hma)
  have x := ha _ (List.getElem_mem hma)
  have y := ht _ (List.getElem_mem hmt)
  have z := fits_word (r := r.rate) (d := r.at' - la[m]) o1 (by omega) (by have := o4.2; omega)
  have s := sumT_pos ht (m + 1)
  rw [e1, e2]
  unfold tk at *
  omega

set_option maxHeartbeats 4000000 in
set_option maxRecDepth 100000 in
theorem bbound_walk {xw xn : Option Addr} {cw lw cn ln : Nat} (b : Bk) (W N : List Int) (w : World) (_hb : Wds b) (hw : Ints w xw cw W) (hn : Ints w xn cn N) (jw : W.length = lw) (jn : N.length = ln) :
    Calls Try.prog 3 #[bkV b, .slice xw lw cw, .slice xn ln cn] w fun e w' => e = .returned (.bool true) ∧ Below w.heap.size w w' := by
  have b0 := (Below.refl w.heap.size w).alloc (Nat.le_refl _) (.cells #[.int .i64 b.rate, .int .i64 b.burst, .int .i64 b.has, .int .i64 b.at'] 23)
  have WW := hid b0
  have KB := hid (Bl.new 23 w #[.int .i64 b.rate, .int .i64 b.burst, .int .i64 b.has, .int .i64 b.at'])
  have HW := hid hw
  have HN := hid hn
  have hwl : W.length ≤ 17592186044416 := hw.2.1
  have hnl : N.length ≤ 17592186044416 := hn.2.1
  clear b0 hw hn
  subst jw jn
  go_enter Try.func3, Try.ntmps3
  go_upto_region 1 with fail
  generalize w.alloc (.cells #[.int .i64 b.rate, .int .i64 b.burst, .int .i64 b.has, .int .i64 b.at'] 23) = w0 at *
  go_wp2_with fail
  refine (filled_any w0).mono ?_
  rintro e w1 ⟨rfl, q⟩
  replace KB := hid (KB.out.below q)
  replace WW := hid (grown_on WW.out q)
  clear q
  obtain ⟨c0, c1, c2, c3⟩ := blFour KB.out
  by_cases g1 : 60 < W.length
  · have g1' : (60 : Int) < (W.length : Int) := by omega
    go_wp2_with fail
    go_ret
    exact ⟨rfl, WW.out⟩
  have g1' : ¬ (60 : Int) < (W.length : Int) := by omega
  by_cases g2 : N.length < W.length
  · have g2' : (N.length : Int) < (W.length : Int) := by omega
    go_wp2_with fail
    go_ret
    exact ⟨rfl, WW.out⟩
  have g2' : ¬ (N.length : Int) < (W.length : Int) := by omega
  by_cases h1 : ok b
  rotate_left
  · have E1 : Hid (errV (okE b) = .iface 37 (.int .i64 6)) := hid (by unfold okE; rw [if_neg h1]; rfl)
    clear h1
    go_wp2_with fail
    refine (bcheck_any b _ w1 E1.out).mono ?_
    rintro e w2 ⟨rfl, q⟩
    replace WW := hid (grown_on WW.out q)
    clear q
    go_wp2_with fail
    go_ret
    exact ⟨rfl, WW.out⟩
  have E1 : Hid (errV (okE b) = .nilIface) := hid (by unfold okE; rw [if_pos h1]; rfl)
  have OK := hid h1
  clear h1
  go_wp2_with fail
  refine (bcheck_any b _ w1 E1.out).mono ?_
  rintro e w2 ⟨rfl, q⟩
  replace KB := hid (KB.out.below q)
  replace WW := hid (grown_on WW.out q)
  clear q c0 c1 c2 c3
  obtain ⟨c0, c1, c2, c3⟩ := blFour KB.out
  go_wp2_with fail
  clear c0 c1 c2 c3
  go_loopw [8, 9, 10, 11] (fun v8 v9 v10 v11 wr => BRel w W v8 v9 v10 v11 wr) (fun _ _ _ i _ => W.length - (intOf i).toNat)
  case atStart => exact ⟨0, [], [], b, Nat.zero_le _, rfl, rfl, rfl, Bound.nil b, OK.out, fun x hx => by simp at hx, fun x hx => by simp at hx, Two.none _ _, KB.out, WW.out⟩
  case round =>
    clear KB WW OK E1
    obtain ⟨i, A, T, d, hi, rfl, rfl, hAl, hBd, hok, hAb, hTb, hTW, hKB, hWW⟩ := hrel
    have BD := hid hBd
    have OK := hid hok
    have AB := hid hAb
    have TB := hid hTb
    have TW := hid hTW
    have KB := hid hKB
    have WW := hid hWW
    clear hBd hok hAb hTb hTW hKB hWW
    by_cases ci : i < W.length
    rotate_left
    · have ci' : ¬ (i : Int) < (W.length : Int) := by omega
      obtain ⟨⟨_, _⟩, ⟨_, _⟩, ⟨x0, x1⟩, _, x2⟩ := OK.out
      obtain ⟨c0, c1, c2, c3⟩ := blFour KB.out
      go_wp2_with fail
      go_ret
      exact ⟨rfl, WW.out⟩
    have ci' : (i : Int) < (W.length : Int) := by omega
    have cn' : (i : Int) < (N.length : Int) := by omega
    obtain ⟨wb, wo, rfl, hwb, hwc0⟩ := ints_cell HW.out ci
    obtain ⟨nb, no, rfl, hnb0, hnc0⟩ := ints_cell HN.out (i := i) (by omega)
    have hwc := (WW.out.cell (p := ⟨wb, wo + i, none⟩) hwb).trans hwc0
    have hnc := (WW.out.cell (p := ⟨nb, no + i, none⟩) hnb0).trans hnc0
    have hnb : nb < wr.heap.size := Nat.lt_of_lt_of_le hnb0 WW.out.size
    have HN0 := hid hnc0
    clear hwc0 hnc0
    have hwr := getD_int HW.out.2.2.1 i
    have hnr := getD_int HN.out.2.2.1 i
    have HWC := hid hwc
    have HNC := hid hnc
    generalize W.getD i 0 = wi at *
    generalize N.getD i 0 = ni at *
    obtain ⟨_, _, _, ⟨a0, a1⟩, _⟩ := OK.out
    by_cases k1 : wi < 0
    · go_wp2_with fail
      go_ret
      exact ⟨rfl, WW.out⟩
    by_cases k2 : 2147483647 - d.at' < wi
    · go_wp2_with fail
      go_ret
      exact ⟨rfl, WW.out⟩
    by_cases k3 : ni < 0
    · go_wp2_with fail
      go_ret
      exact ⟨rfl, WW.out⟩
    go_upto_region 15 with fail
    obtain ⟨now, hnow⟩ : ∃ now, d.at' + wi = now := ⟨_, rfl⟩
    rw [hnow]
    have n0 : d.at' ≤ now := by omega
    have n1 : now ≤ 2147483647 := by omega
    have FT : Hid (fits d now) := hid ⟨OK.out, n0, n1⟩
    obtain ⟨r, hr⟩ : ∃ r, take d now ni = r := ⟨_, rfl⟩
    obtain ⟨is, his⟩ : ∃ is, isT d now ni = is := ⟨_, rfl⟩
    have HR : Hid (takeR d now ni = r) := hid (by unfold takeR; rw [if_pos ⟨FT.out, by omega⟩]; exact hr)
    have HI : Hid (takeI d now ni = is) := hid (by unfold takeI; rw [if_pos ⟨FT.out, by omega⟩]; exact his)
    have HE : Hid (errV (takeE d now ni) = .nilIface) := hid (by unfold takeE; rw [if_pos ⟨FT.out, by omega⟩]; rfl)
    have wn : wd now := by unfold wd; omega
    have wm : wd ni := hnr
    have RR := hid hr
    have II := hid his
    have NOW := hid hnow
    clear hr his hnow
    go_cut [12, 13, 14] from 38 to 122 (fun vx vi ve wx => Took wr r is vx vi ve wx)
    case first =>
      obtain ⟨x0, x1, x2, x3⟩ := blFour KB.out
      have l0 : ∀ s' : Od wr, s'.val.cell? ⟨w.heap.size, 0, none⟩ = some (.int .i64 d.rate) := fun s' => (s'.keeps.cell (p := ⟨w.heap.size, 0, none⟩) KB.out.lt).trans x0
      have l1 : ∀ s' : Od wr, s'.val.cell? ⟨w.heap.size, 1, none⟩ = some (.int .i64 d.burst) := fun s' => (s'.keeps.cell (p := ⟨w.heap.size, 1, none⟩) KB.out.lt).trans x1
      have l2 : ∀ s' : Od wr, s'.val.cell? ⟨w.heap.size, 2, none⟩ = some (.int .i64 d.has) := fun s' => (s'.keeps.cell (p := ⟨w.heap.size, 2, none⟩) KB.out.lt).trans x2
      have l3 : ∀ s' : Od wr, s'.val.cell? ⟨w.heap.size, 3, none⟩ = some (.int .i64 d.at') := fun s' => (s'.keeps.cell (p := ⟨w.heap.size, 3, none⟩) KB.out.lt).trans x3
      have l4 : ∀ s' : Od wr, s'.val.cell? ⟨nb, no + i, none⟩ = some (.int .i64 ni) := fun s' => (s'.keeps.cell (p := ⟨nb, no + i, none⟩) hnb).trans HNC.out
      have hNe : Nonempty (Od wr) := ⟨⟨wr, Below.refl _ _⟩⟩
      clear x0 x1 x2 x3 hwc hnc
      refine wp_region_pt (.qs [0, 1, 2, 3, 4, 5] (.two 6 (.qs [7, 8, 9, 10] (.one 11 (.one 12 (.one 13 (.one 14 .nil))))) 11 (.one 6 (.qs [7, 8, 9, 10] (.one 12 (.one 13 (.one 14 .nil))))))) (fun u => ∃ s' : Od wr, u = s'.val) (by kernel_rfl) (by kernel_rfl) ?_
      refine ptL_qs ⟨⟨wr.drew, (Below.refl _ _).drew⟩, rfl⟩ ?_
      change wpQuiet _ _ _ _ [_, _, _, _, _, _] _
      repeat (go_big_quiet_step (fail))
      refine wpQuiet_nil ?_
      have HB := (Below.refl wr.heap.size wr).drew
      refine ⟨?_, ?_⟩
      · skip
        refine stepL_at (by rfl) fun K Q' hK => ?_
        go_simp
        refine (btake_any d now ni r is .nilIface _ wn wm HR.out HI.out HE.out).mono ?_
        rintro e u1 ⟨rfl, q⟩
        replace HB := HB.trans (q.mono HB.size)
        refine hK _ _ (fun _ => ⟨⟨_, HB⟩, rfl⟩) ?_
        clear hK q
        refine ptL_qs ⟨⟨_, HB⟩, rfl⟩ ?_
        change wpQuiet _ _ _ _ [_, _, _, _] _
        repeat (go_big_quiet_step (fail))
        refine wpQuiet_nil ?_
        refine stepL_at (by rfl) fun K Q' hK => ?_
        go_simp
        have KA : Bl 23 (World.alloc u1 (.cells #[.int .i64 0, .int .i64 0, .int .i64 0, .int .i64 0] 23)) (World.heap u1).size #[.int .i64 0, .int .i64 0, .int .i64 0, .int .i64 0] := Bl.new 23 _ #[.int .i64 0, .int .i64 0, .int .i64 0, .int .i64 0]
        have GEX : wr.heap.size ≤ u1.heap.size := HB.size
        replace HB := HB.alloc HB.size (.cells #[.int .i64 0, .int .i64 0, .int .i64 0, .int .i64 0] 23)
        refine hK _ _ (fun _ => ⟨⟨_, HB⟩, rfl⟩) ?_
        clear hK
        refine stepL_at (by rfl) fun K Q' hK => ?_
        refine wp_store_row 23 (.tmp 12) (.tmp 79) rfl u1.heap.size #[.int .i64 r.rate, .int .i64 r.burst, .int .i64 r.has, .int .i64 r.at'] rfl rfl 23 #[.int .i64 0, .int .i64 0, .int .i64 0, .int .i64 0] KA size_bucket rfl (by simp [Value.oneCell']) ?_
        have HB2 := below_setRow HB GEX #[.int .i64 r.rate, .int .i64 r.burst, .int .i64 r.has, .int .i64 r.at']
        refine hK _ _ (fun _ => ⟨⟨_, HB2⟩, rfl⟩) ?_
        clear hK
        refine stepL_at (by rfl) fun K Q' hK => ?_
        go_simp
        refine hK _ _ (fun _ => ⟨⟨_, HB2⟩, rfl⟩) ?_
        clear hK
        refine stepL_at (by rfl) fun K Q' hK => ?_
        go_simp
        refine hK _ _ (fun _ => ⟨⟨_, HB2⟩, rfl⟩) ?_
        clear hK
        refine ptL_nil ?_
        go_wp2
        go_meet
        exact ⟨_, rfl, rfl, rfl, Bl_rowB KA #[.int .i64 r.rate, .int .i64 r.burst, .int .i64 r.has, .int .i64 r.at'], GEX, HB2⟩
      · skip
        refine stepL_at (by rfl) fun K Q' hK => ?_
        go_simp
        have KA : Bl 23 (World.alloc wr.drew (.cells #[.int .i64 0, .int .i64 0, .int .i64 0, .int .i64 0] 23)) wr.heap.size #[.int .i64 0, .int .i64 0, .int .i64 0, .int .i64 0] := Bl.new 23 wr.drew #[.int .i64 0, .int .i64 0, .int .i64 0, .int .i64 0]
        have GEX : wr.heap.size ≤ wr.heap.size := Nat.le_refl _
        replace HB := HB.alloc HB.size (.cells #[.int .i64 0, .int .i64 0, .int .i64 0, .int .i64 0] 23)
        refine hK _ _ (fun _ => ⟨⟨_, HB⟩, rfl⟩) ?_
        clear hK
        refine stepL_at (by rfl) fun K Q' hK => ?_
        go_simp
        refine (btake_any d now ni r is .nilIface _ wn wm HR.out HI.out HE.out).mono ?_
        rintro e u1 ⟨rfl, q⟩
        replace KA := KA.below q
        replace HB := HB.trans (q.mono HB.size)
        refine hK _ _ (fun _ => ⟨⟨_, HB⟩, rfl⟩) ?_
        clear hK q
        refine ptL_qs ⟨⟨_, HB⟩, rfl⟩ ?_
        change wpQuiet _ _ _ _ [_, _, _, _] _
        repeat (go_big_quiet_step (fail))
        refine wpQuiet_nil ?_
        refine stepL_at (by rfl) fun K Q' hK => ?_
        refine wp_store_row 23 (.tmp 12) (.tmp 79) rfl wr.heap.size #[.int .i64 r.rate, .int .i64 r.burst, .int .i64 r.has, .int .i64 r.at'] rfl rfl 23 #[.int .i64 0, .int .i64 0, .int .i64 0, .int .i64 0] KA size_bucket rfl (by simp [Value.oneCell']) ?_
        have HB2 := below_setRow HB GEX #[.int .i64 r.rate, .int .i64 r.burst, .int .i64 r.has, .int .i64 r.at']
        refine hK _ _ (fun _ => ⟨⟨_, HB2⟩, rfl⟩) ?_
        clear hK
        refine stepL_at (by rfl) fun K Q' hK => ?_
        go_simp
        refine hK _ _ (fun _ => ⟨⟨_, HB2⟩, rfl⟩) ?_
        clear hK
        refine stepL_at (by rfl) fun K Q' hK => ?_
        go_simp
        refine hK _ _ (fun _ => ⟨⟨_, HB2⟩, rfl⟩) ?_
        clear hK
        refine ptL_nil ?_
        go_wp2
        go_meet
        exact ⟨_, rfl, rfl, rfl, Bl_rowB KA #[.int .i64 r.rate, .int .i64 r.burst, .int .i64 r.has, .int .i64 r.at'], GEX, HB2⟩
    case rest =>
      obtain ⟨gx, rfl, rfl, rfl, hkx, hgx, hwx⟩ := hcut
      replace TW := hid (TW.out.stay hwx)
      replace KB := hid (KB.out.below hwx)
      replace WW := hid (grown_on WW.out hwx)
      obtain ⟨x0, x1, x2, x3⟩ := blFour hkx
      obtain ⟨y0, y1, y2, y3⟩ := blFour KB.out
      obtain ⟨z0, z1, z2, z3⟩ := blFroz KB.out
      replace TW := hid (TW.out.put4 (Nat.lt_succ_self w.heap.size) (.int .i64 r.rate) (.int .i64 r.burst) (.int .i64 r.has) (.int .i64 r.at'))
      replace KB := hid (blPut4 KB.out (.int .i64 r.rate) (.int .i64 r.burst) (.int .i64 r.has) (.int .i64 r.at'))
      replace WW := hid (belowPut4 WW.out (Nat.le_refl _) (.int .i64 r.rate) (.int .i64 r.burst) (.int .i64 r.has) (.int .i64 r.at'))
      clear hwc hnc HWC HNC hkx hgx hwx
      go_upto_if 85 with fail
      clear x0 x1 x2 x3 y0 y1 y2 y3 z0 z1 z2 z3
      generalize (((wc.setCell ⟨w.heap.size, 0, none⟩ (.int .i64 r.rate)).setCell ⟨w.heap.size, 1, none⟩ (.int .i64 r.burst)).setCell ⟨w.heap.size, 2, none⟩ (.int .i64 r.has)).setCell ⟨w.heap.size, 3, none⟩ (.int .i64 r.at') = w4 at *
      obtain ⟨tk, htk⟩ : ∃ tk, tookN d now ni = tk := ⟨_, rfl⟩
      have TK := hid htk
      have hnc4 := (WW.out.cell (p := ⟨nb, no + i, none⟩) hnb0).trans HN0.out
      have IT : Hid (tk = if is = true then ni else 0) := hid (by
        rw [← htk, ← II.out]
        unfold tookN isT
        by_cases q : ni ≤ hasAt d now
        · rw [if_pos q, if_pos (decide_eq_true q)]
        · rw [if_neg q, if_neg (by simpa using q)])
      clear htk
      go_cut [15] from 38 to 122 (fun v wx => v = .int .i64 tk ∧ wx = w4)
      case first =>
        cases is with
        | true =>
          have e := IT.out
          rw [if_pos rfl] at e
          replace e := hid e
          go_wp2_with fail
          go_meet
          exact ⟨congrArg _ e.out.symm, rfl⟩
        | false =>
          have e := IT.out
          rw [if_neg (by decide)] at e
          replace e := hid e
          go_wp2_with fail
          go_meet
          exact ⟨congrArg _ e.out.symm, rfl⟩
      case rest =>
        obtain ⟨rfl, rfl⟩ := hcut
        have hi60 : A.length ≤ 60 := by omega
        have hTl : T.length = A.length := BD.out.1.symm
        have hT60 : T.length ≤ 60 := by omega
        have BD2 : Hid (Bound r (A ++ [now]) (T ++ [tk])) := hid (by rw [← RR.out, ← TK.out]; exact BD.out.next FT.out)
        have OK2 : Hid (ok r) := hid (by rw [← RR.out]; exact take_ok FT.out (by omega))
        have RA : Hid (r.at' = now) := hid (by rw [← RR.out]; exact (take_at d now ni).1)
        have tkb : 0 ≤ tk ∧ tk ≤ 2147483647 := by
          have e := IT.out
          have g := hasAt_bounds FT.out
          have u := FT.out.1.2.1.2
          have t := TK.out
          unfold tookN at t
          split at t <;> omega
        obtain ⟨tk0, tk1⟩ := tkb
        have AB2 : Hid (∀ x ∈ A ++ [now], 0 ≤ x ∧ x ≤ 2147483647) := hid (fun x hx => by
          rcases List.mem_append.1 hx with q | q
          · exact AB.out x q
          · rw [List.mem_singleton.1 q]; omega)
        have TB2 : Hid (∀ x ∈ T ++ [tk], 0 ≤ x ∧ x ≤ 2147483647) := hid (fun x hx => by
          rcases List.mem_append.1 hx with q | q
          · exact TB.out x q
          · rw [List.mem_singleton.1 q]; omega)
        have hBw : w.heap.size + 1 ≤ wc.heap.size := by have := KB.out.lt; omega
        have S1 := (Below.refl wc.heap.size wc).alloc (Nat.le_refl _) (.cells #[.int .i64 now] 3)
        have TW1 := hid (TW.out.stay S1)
        have KB1 := hid (KB.out.below S1)
        have WW1 := hid (grown_on WW.out S1)
        have hy1 : Hid ((wc.alloc (.cells #[.int .i64 now] 3)).cell? ⟨wc.heap.size, 0, none⟩ = some (.int .i64 now)) := hid (by simp)
        have hB1 := Nat.le_trans hBw S1.size
        clear S1 BD AB TB
        go_upto_region 23 with (at_builtin; refine wpList_one_first rfl _ _ rfl rfl rfl TW1.out hy1.out (by omega) hB1 ?_; intro v5 w5 tw5 bl5 gr5)
        have KB5 := hid (KB1.out.under (Nat.lt_succ_self _) bl5)
        have WW5 := hid (WW1.out.trans (bl5.mono (Nat.le_succ _)))
        have hB5 := Nat.le_trans hB1 bl5.size
        have S5 := (Below.refl w5.heap.size w5).alloc (Nat.le_refl _) (.cells #[.int .i64 tk] 3)
        have TW6 := hid (tw5.stay S5)
        have KB6 := hid (KB5.out.below S5)
        have WW6 := hid (grown_on WW5.out S5)
        have hy6 : Hid ((w5.alloc (.cells #[.int .i64 tk] 3)).cell? ⟨w5.heap.size, 0, none⟩ = some (.int .i64 tk)) := hid (by simp)
        have hB6 := Nat.le_trans hB5 S5.size
        clear S5 TW TW1 KB1 WW1 KB WW hy1 bl5 gr5 tw5 KB5 WW5
        go_upto_region 24 with (at_builtin; refine wpList_one_second rfl _ _ rfl rfl rfl TW6.out hy6.out (by omega) hB6 ?_; intro v7 w7 tw7 bl7 gr7)
        have KB7 := hid (KB6.out.under (Nat.lt_succ_self _) bl7)
        have WW7 := hid (WW6.out.trans (bl7.mono (Nat.le_succ _)))
        obtain ⟨a5, ac5, rfl⟩ := rowi_slice tw7.1
        obtain ⟨a7, ac7, rfl⟩ := rowi_slice tw7.2.1
        have TW7 := hid tw7
        clear tw7 TW6 KB6 WW6 hy6 bl7 gr7 hB1 hB5 hB6 hBw
        have IA := hid (rowi_ints TW7.out.1 (by simp; omega) (fun z hz => by have := AB2.out z hz; omega))
        have IT2 := hid (rowi_ints TW7.out.2.1 (by simp; omega) (fun z hz => by have := TB2.out z hz; omega))
        obtain ⟨la, hla⟩ : ∃ la, A ++ [now] = la := ⟨_, rfl⟩
        obtain ⟨lt, hlt⟩ : ∃ lt, T ++ [tk] = lt := ⟨_, rfl⟩
        have hll : la.length = i + 1 := by rw [← hla]; simp; omega
        have hlm : lt.length = i + 1 := by rw [← hlt]; simp; omega
        rw [hla, hlt] at BD2 TW7
        rw [hla] at AB2 IA ⊢
        rw [hlt] at TB2 IT2 ⊢
        clear hla hlt TK II IT hAl hTl hT60 hi60
        obtain ⟨xa, ca, ea, ia⟩ := IA.out
        cases ea
        obtain ⟨xt, ct, et, it⟩ := IT2.out
        cases et
        obtain ⟨ga, oa, rfl, qa⟩ := ints_all ia (by omega)
        obtain ⟨gt, ot, rfl, qt⟩ := ints_all it (by omega)
        have QA := hid qa
        have QT := hid qt
        have HLL := hid hll
        have HLM := hid hlm
        clear IA IT2 ia it qa qt
        obtain ⟨na, hna⟩ : ∃ na, la.length = na := ⟨_, rfl⟩
        obtain ⟨nt, hnt⟩ : ∃ nt, lt.length = nt := ⟨_, rfl⟩
        rw [hna] at TW7 hll ⊢
        rw [hnt] at TW7 hlm ⊢
        have jna : (i : Int) < (na : Int) := by omega
        have jnt : (i : Int) < (nt : Int) := by omega
        clear hna hnt hll hlm
        have IN := hid (fun m (hm : m ≤ i) => inner (m := m) BD2.out OK2.out AB2.out TB2.out HLL.out hm)
        rw [RA.out] at IN
        obtain ⟨c0, c1, _, _⟩ := blFour KB7.out
        go_wp2_with fail
        go_loopw [16, 17] (fun va vk wx => ∃ k : Int, -1 ≤ k ∧ k ≤ (i : Int) ∧ vk = .int .i64 k ∧ va = .int .i64 (sumT lt (k + 1).toNat) ∧ Drawn w7 wx) (fun _ vk _ => (intOf vk + 1).toNat)
        case atStart =>
          refine ⟨(i : Int), by omega, by omega, rfl, ?_, Drawn.refl _⟩
          have e : sumT lt (((i : Int) + 1).toNat) = 0 := by
            rw [show ((i : Int) + 1).toNat = lt.length by have := HLM.out; omega]
            exact sumT_end lt
          rw [e]
        case round =>
          obtain ⟨k, hk0, hk1, rfl, rfl, hdr⟩ := hrel
          have DR := hid hdr
          clear hdr c0 c1
          obtain ⟨c0, c1, _, _⟩ := blFour (KB7.out.below (DR.out.below _))
          by_cases ck : k < 0
          · obtain rfl : k = -1 := by omega
            clear c0 c1
            go_wp2_with fail
            refine ⟨⟨i + 1, la, lt, r, by omega, by go_num, by rw [RA.out], HLL.out, BD2.out, OK2.out, AB2.out, TB2.out, TW7.out.stay (DR.out.below _), KB7.out.below (DR.out.below _), grown_on WW7.out (DR.out.below _)⟩, by simp [intOf]; omega⟩
          · obtain ⟨m, rfl⟩ : ∃ m : Nat, k = (m : Int) := ⟨k.toNat, by omega⟩
            have hmi : m ≤ i := by omega
            obtain ⟨t1, t2, t3, t4, t5, t6, t7, t8, t9, t10, t11⟩ := IN.out m hmi
            rw [show ((m : Int) + 1).toNat = m + 1 by omega]
            have qa0 := QA.out m (by have := HLL.out; omega)
            have qt0 := QT.out m (by have := HLM.out; omega)
            have qa := ((DR.out.below _).cell (p := ⟨ga, oa + m, none⟩) (cell_lt qa0)).trans qa0
            have qt := ((DR.out.below _).cell (p := ⟨gt, ot + m, none⟩) (cell_lt qt0)).trans qt0
            have hT1 := hid t1
            rw [t1] at t9
            clear t1 qa0 qt0
            generalize sumT lt (m + 1) = S1 at *
            generalize lt.getD m 0 = tm at *
            generalize la.getD m 0 = am at *
            have u1 : (m : Int) < (na : Int) := by omega
            have u2 : (m : Int) < (nt : Int) := by omega
            have t9' : ¬ r.burst + r.rate * (now - am) < S1 + tm := by omega
            clear t9
            go_wp2_with fail
            go_quiet (fail)
            have DR2 := hid ((DR.out).trans ((Drawn.refl wr).more nq))
            generalize wr.drewN nq = wz at *
            go_wp2_with fail
            refine ⟨⟨(m : Int) - 1, by omega, by omega, rfl, ?_, DR2.out⟩, by simp [intOf]⟩
            rw [show ((m : Int) - 1 + 1).toNat = m by omega, hT1.out]

end Go.Proofs.Ytlmhcjkkdgdbjaa.Bu
