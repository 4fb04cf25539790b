/-
  The walk of the law ChainSwaps.
-/
import Derived.Test.YtnbabdfcamdapaaLawChfirst
namespace Go.Proofs.Ytnbabdfcamdapaa.Ru
open Go.RowKit Go.Deep

theorem drawsBelow (w : World) (n : Nat) : Below w.heap.size w (w.drewN n) := below_drewN (Below.refl _ w) n

/-- The block of a row of the call's own. -/
theorem RaRow.block {wp w : World} {B : Nat} {v : Value} {rs : List Ra} (h : RaRow wp B w v rs) (hp : 0 < rs.length) : ∃ (g c : Nat) (M : List Re), v = .slice (some ⟨g, 0, none⟩) rs.length c ∧ rs.length ≤ c ∧ M.map Re.r = rs ∧ (∀ e ∈ M, ReIn wp e) ∧ B ≤ g ∧ g < w.heap.size ∧ Below wp.heap.size wp w ∧ ∀ i u, (M.flatMap recells)[i]? = some u → w.cell? ⟨g, i, none⟩ = some u := by
  obtain ⟨L, rfl, h2, h3, h4⟩ := h
  rw [List.length_map] at hp ⊢
  have hc := fun (g : Nat) (hg : v.ownBlock = some g) => h2.cells hg
  have hlt := World.ownsRow.lt h2
  rcases h2.2 with ⟨e, e2⟩ | ⟨g, cap, cur, rfl, hg, hh, hn, _⟩
  · omega
  · exact ⟨g, cap, L, rfl, hn, rfl, h3, hg, (hlt g rfl).2, h4, fun j u hj => by have := hc g rfl j u hj; simpa [Go.WideShapes.add_plain] using this⟩

theorem reflat_set (L : List Re) (i : Nat) (hi : i < L.length) (e : Re) : (((L.flatMap recells).set (i * 2) (.slice e.x e.r.ms.length e.c)).set (i * 2 + 1) (.int .i64 e.r.act)) = (L.set i e).flatMap recells := by
  induction L generalizing i with
  | nil => simp at hi
  | cons x L ih =>
    cases i with
    | zero => rfl
    | succ i =>
      have k1 : (i + 1) * 2 = i * 2 + 2 := by rw [Nat.succ_mul]
      rw [k1, List.set_cons_succ, List.flatMap_cons, List.flatMap_cons, ← ih i (by simpa using hi)]
      rfl

/-- Another rule at a place of a row of the call's own. -/
theorem RaRow.put {wp w : World} {B g n c : Nat} {rs : List Ra} (h : RaRow wp B w (.slice (some ⟨g, 0, none⟩) n c) rs) (hB : wp.heap.size ≤ B) (i : Nat) (hi : i < rs.length) (e : Re) (he : ReIn wp e) : RaRow wp B ((w.setCell ⟨g, i * 2, none⟩ (.slice e.x e.r.ms.length e.c)).setCell ⟨g, i * 2 + 1, none⟩ (.int .i64 e.r.act)) (.slice (some ⟨g, 0, none⟩) n c) (rs.set i e.r) := by
  obtain ⟨L, rfl, h2, h3, h4⟩ := h
  rw [List.length_map] at hi
  have hg := (World.ownsRow.lt h2 g rfl).1
  have hn : L.length = n := by
    rcases h2.2 with ⟨q, _⟩ | ⟨g', cap, cur, q, _⟩
    · cases q
    · simp only [Value.slice.injEq] at q; exact q.2.1.symm
  subst hn
  refine ⟨L.set i e, by rw [List.map_set], ?_, fun x hx => ?_, (h4.setCell (by simp only; omega) _).setCell (by simp only; omega) _⟩
  · have := ((h2.stored (i * 2) (.slice e.x e.r.ms.length e.c)).1.stored (i * 2 + 1) (.int .i64 e.r.act)).1
    rw [reflat_set L i hi e] at this
    rw [List.length_set]
    exact this
  · rcases List.mem_or_eq_of_mem_set hx with hx | rfl
    · exact h3 x hx
    · exact he

theorem RaRow.frozen {wp w : World} {B g n c : Nat} {rs : List Ra} (h : RaRow wp B w (.slice (some ⟨g, 0, none⟩) n c) rs) (j : Nat) : w.frozen? ⟨g, j, none⟩ = false := by
  obtain ⟨L, rfl, h2, h3, h4⟩ := h
  have hn : L.length = n := by
    rcases h2.2 with ⟨q, _⟩ | ⟨g', cap, cur, q, _⟩
    · cases q
    · simp only [Value.slice.injEq] at q; exact q.2.1.symm
  subst hn
  exact h2.frozenAt j

theorem RaRow.on {wp w : World} {B : Nat} {v : Value} {rs : List Ra} (h : RaRow wp B w v rs) : Below wp.heap.size wp w := by
  obtain ⟨L, _, _, _, h4⟩ := h
  exact h4

/-- What lies at a place of a row of the call's own. -/
theorem RaRow.at {wp w : World} {B g n c : Nat} {rs : List Ra} (h : RaRow wp B w (.slice (some ⟨g, 0, none⟩) n c) rs) {i : Nat} (hi : i < rs.length) : ∃ y s, w.cell? ⟨g, i * 2, none⟩ = some (.slice y rs[i].ms.length s) ∧ w.cell? ⟨g, i * 2 + 1, none⟩ = some (.int .i64 rs[i].act) := by
  obtain ⟨g', c', M, hv, _, rfl, _, _, _, _, hc⟩ := h.block (by omega)
  simp only [Value.slice.injEq, Option.some.injEq, Addr.mk.injEq, and_true] at hv
  obtain ⟨rfl, _, rfl⟩ := hv
  rw [List.length_map] at hi
  have c0 := hc (i * 2 + 0) _ (reflat_get M i 0 hi (by decide))
  have c1 := hc (i * 2 + 1) _ (reflat_get M i 1 hi (by decide))
  rw [List.getElem_map]
  exact ⟨_, _, c0, c1⟩

/-- Two neighbours who do the same, or do not both hold. -/
theorem chain_swap {q : Qy} {other : Int} {rs : List Ra} {k : Nat} (hk : k + 1 < rs.length) (h : (chainE rs).2 = 0) (hs : ¬ (holdN q rs[k].ms = true ∧ holdN q rs[k + 1].ms = true) ∨ rs[k].act = rs[k + 1].act) :
    (chainE ((rs.set k rs[k + 1]).set (k + 1) rs[k])).2 = 0 ∧ chainD q other ((rs.set k rs[k + 1]).set (k + 1) rs[k]) = chainD q other rs := by
  have hx : rs[k]? = some rs[k] := List.getElem?_eq_getElem (by omega)
  have hy : rs[k + 1]? = some rs[k + 1] := List.getElem?_eq_getElem hk
  obtain ⟨s1, s2⟩ := Ch.swap_split rs k hx hy
  have hz : (chainE ((rs.set k rs[k + 1]).set (k + 1) rs[k])).2 = 0 := by
    obtain ⟨h1, h2⟩ := chainE_zero.1 h
    refine chainE_zero.2 ⟨by rw [List.length_set, List.length_set]; exact h1, fun r hr => h2 r ?_⟩
    rw [s2] at hr
    rw [s1]
    simp only [List.mem_append, List.mem_cons] at hr ⊢
    rcases hr with hr | hr | hr | hr
    · exact Or.inl hr
    · exact Or.inr (Or.inr (Or.inl hr))
    · exact Or.inr (Or.inl hr)
    · exact Or.inr (Or.inr (Or.inr hr))
  refine ⟨hz, ?_⟩
  rw [chainD_act hz, chainD_act h, List.map_set, List.map_set]
  refine Ch.act_swap other _ k ?_ ?_ ?_
  · rw [List.getElem?_map, hx]; rfl
  · rw [List.getElem?_map, hy]; rfl
  · exact hs

set_option maxHeartbeats 2000000 in
set_option maxRecDepth 100000 in
theorem chswap_walk {x y z : Option Addr} {c l s t : Nat} (rs : List Ra) (k : Int) (q : Qy) (other : Int) (w : World) (h : Ras w x c rs) (hl : rs.length = l) (hb : rs.length * 32 ≤ 140737488351232) (hq : QyIs w q y s z t) (hkr : -9223372036854775808 ≤ k ∧ k ≤ 9223372036854775807) :
    Calls Try.prog 4 #[.slice x l c, .int .i64 k, .agg #[.slice y q.N.length s, .int .i64 q.ty, .int .i64 q.cl, .int .i64 q.opc, .bool q.rd, .slice z q.F.length t], .int .i64 other] w fun e w' => e = .returned (.bool true) ∧ Below w.heap.size w w' := by
  have B0 := boxed 29 w #[.slice y q.N.length s, .int .i64 q.ty, .int .i64 q.cl, .int .i64 q.opc, .bool q.rd, .slice z q.F.length t]
  have KQ := hid (Bl.new 29 w #[.slice y q.N.length s, .int .i64 q.ty, .int .i64 q.cl, .int .i64 q.opc, .bool q.rd, .slice z q.F.length t])
  have H1 := hid (h.below B0)
  have QQ := hid (hq.below B0)
  have WW := hid B0
  have hlen : rs.length ≤ 5000000000000 := h.2.1
  clear B0 h hq
  obtain ⟨w0, hw0⟩ : ∃ w0, w.alloc (.cells #[.slice y q.N.length s, .int .i64 q.ty, .int .i64 q.cl, .int .i64 q.opc, .bool q.rd, .slice z q.F.length t] 29) = w0 := ⟨_, rfl⟩
  rw [hw0] at KQ H1 QQ WW
  have HW := hid hw0
  clear hw0
  obtain ⟨e, he⟩ : ∃ e, (chainE rs).2 = e := ⟨_, rfl⟩
  obtain ⟨d, hd⟩ : ∃ d, chainD q other rs = d := ⟨_, rfl⟩
  have HD := hid hd
  clear hd
  go_enter Try.func4, Try.ntmps4
  go_upto_region 1 with fail
  rw [HW.out]
  clear HW
  go_wp2_with fail
  refine (chained_any w0).mono ?_
  rintro _ w1 ⟨rfl, b⟩
  replace KQ := hid (KQ.out.below b)
  replace H1 := hid (H1.out.below b)
  replace QQ := hid (QQ.out.below b)
  replace WW := hid (grown_on WW.out b)
  clear b
  obtain ⟨x0, x1, q2, q3, q4, q5⟩ := bl6 KQ.out
  by_cases h0 : e = 0
  rotate_left
  · have EV : Hid (errV e = .iface 52 (.int .i64 e)) := hid (errV_some h0)
    have HK := hid he
    clear h0 he
    go_wp2_with fail
    refine (cdo_any other d e _ rs q w1 H1.out hl QQ.out HK.out HD.out EV.out).mono ?_
    rintro _ w2 ⟨rfl, b⟩
    replace WW := hid (grown_on WW.out b)
    clear b
    go_wp2_with fail
    go_ret
    exact ⟨rfl, WW.out⟩
  subst h0
  have HK := hid he
  have EE := hid (chainE_zero.1 he).2
  have hl50 : rs.length ≤ 50 := (chainE_zero.1 he).1
  clear he
  go_wp2_with fail
  refine (cdo_any other d 0 .nilIface rs q w1 H1.out hl QQ.out HK.out HD.out rfl).mono ?_
  rintro _ w2 ⟨rfl, b⟩
  replace KQ := hid (KQ.out.below b)
  replace H1 := hid (H1.out.below b)
  replace QQ := hid (QQ.out.below b)
  replace WW := hid (grown_on WW.out b)
  clear b x0 x1 q2 q3 q4 q5
  obtain ⟨x0, x1, q2, q3, q4, q5⟩ := bl6 KQ.out
  have hn : IntKind.i64.wrap ((l : Int) - 1) = (l : Int) - 1 := Go.IntWalk.i64_in _ (by omega)
  by_cases hk0 : k < 0
  · go_wp2_with fail
    go_ret
    exact ⟨rfl, WW.out⟩
  obtain ⟨j, rfl⟩ : ∃ j : Nat, k = (j : Int) := ⟨k.toNat, by omega⟩
  clear hk0
  by_cases hk1 : (l : Int) - 1 ≤ (j : Int)
  · go_wp2_with fail
    go_ret
    exact ⟨rfl, WW.out⟩
  have cj : j < rs.length := by omega
  have cj1 : j + 1 < rs.length := by omega
  have cj' : (j : Int) < (l : Int) := by omega
  have cj1' : (j : Int) + 1 < (l : Int) := by omega
  have hk2 : ¬ (l : Int) - 1 ≤ (j : Int) := hk1
  have hn1 : IntKind.i64.wrap ((j : Int) + 1) = (j : Int) + 1 := Go.IntWalk.i64_in _ (by omega)
  have hE0 := EE.out _ (List.getElem_mem cj)
  obtain ⟨oa, hoa⟩ : ∃ o, holdN q rs[j].ms = o := ⟨_, rfl⟩
  have Goa := hid hoa
  have C2 := hid (fun (u : World) (hu : Below w2.heap.size w2 u) (y' : Option Addr) (s' : Nat) (hM : Mats w2 y' s' rs[j].ms) => rholds_row rs[j].ms q oa u (hM.below hu) rfl (QQ.out.below hu) hE0 hoa)
  clear hE0 hoa
  go_upto_region 7 with fail
  go_cut [12, 13] from 42 to 51 (fun vx ve wx => vx = .bool oa ∧ ve = .nilIface ∧ Below w2.heap.size w2 wx)
  case first =>
    obtain ⟨b, off, rfl, hbl, y', s', k0, k1, hM⟩ := H1.out.here cj
    replace C2 := C2.out
    replace C2 := hid (fun u hu => C2 u hu y' s' hM)
    clear k1 hM
    generalize rs[j].ms = mj at *
    have l0 : ∀ s' : Okc w2, s'.val.cell? ⟨w.heap.size, 0, none⟩ = some (.slice y q.N.length s) := fun s' => (s'.keeps.cell (p := ⟨w.heap.size, 0, none⟩) KQ.out.lt).trans x0
    have l1 : ∀ s' : Okc w2, s'.val.cell? ⟨w.heap.size, 1, none⟩ = some (.int .i64 q.ty) := fun s' => (s'.keeps.cell (p := ⟨w.heap.size, 1, none⟩) KQ.out.lt).trans x1
    have l2' : ∀ s' : Okc w2, s'.val.cell? ⟨w.heap.size, 2, none⟩ = some (.int .i64 q.cl) := fun s' => (s'.keeps.cell (p := ⟨w.heap.size, 2, none⟩) KQ.out.lt).trans q2
    have l3 : ∀ s' : Okc w2, s'.val.cell? ⟨w.heap.size, 3, none⟩ = some (.int .i64 q.opc) := fun s' => (s'.keeps.cell (p := ⟨w.heap.size, 3, none⟩) KQ.out.lt).trans q3
    have l4 : ∀ s' : Okc w2, s'.val.cell? ⟨w.heap.size, 4, none⟩ = some (.bool q.rd) := fun s' => (s'.keeps.cell (p := ⟨w.heap.size, 4, none⟩) KQ.out.lt).trans q4
    have l5 : ∀ s' : Okc w2, s'.val.cell? ⟨w.heap.size, 5, none⟩ = some (.slice z q.F.length t) := fun s' => (s'.keeps.cell (p := ⟨w.heap.size, 5, none⟩) KQ.out.lt).trans q5
    have l6 : ∀ s'' : Okc w2, s''.val.cell? ⟨b, off + j * 2, none⟩ = some (.slice y' mj.length s') := fun s'' => (s''.keeps.cell (p := ⟨b, off + j * 2, none⟩) hbl).trans k0
    have hNe : Nonempty (Okc w2) := ⟨⟨w2, Below.refl _ _⟩⟩
    clear x0 x1 q2 q3 q4 q5 k0
    refine wp_region_pt (.qs [0, 1, 2, 3, 4, 5] (.one 6 (.qs [7, 8, 9] (.one 10 (.one 11 .nil))))) (fun u => ∃ s' : Okc w2, u = s'.val) (by kernel_rfl) (by kernel_rfl) ?_
    refine ptL_qs ⟨⟨w2.drew, (Below.refl _ _).drew⟩, rfl⟩ ?_
    change wpQuiet _ _ _ _ [_, _, _, _, _, _] _
    repeat (go_big_quiet_step (fail))
    refine wpQuiet_nil ?_
    have HB := (Below.refl w2.heap.size w2).drew
    clear l0 l1 l2' l3 l4 l5 l6
    refine stepL_at (by rfl) fun K Q' hK => ?_
    go_simp
    refine (C2.out _ HB).mono ?_
    rintro _ u1 ⟨rfl, d1⟩
    replace HB := HB.trans (d1.mono HB.size)
    refine hK _ _ (fun _ => ⟨⟨_, HB⟩, rfl⟩) ?_
    clear hK d1
    refine ptL_qs ⟨⟨_, HB⟩, rfl⟩ ?_
    change wpQuiet _ _ _ _ [_, _, _] _
    repeat (go_big_quiet_step (fail))
    refine wpQuiet_nil ?_
    refine stepL_at (by rfl) fun K Q' hK => ?_
    go_simp
    refine hK _ _ (fun _ => ⟨⟨_, HB⟩, rfl⟩) ?_
    clear hK
    refine stepL_at (by rfl) fun K Q' hK => ?_
    go_simp
    refine hK _ _ (fun _ => ⟨⟨_, HB⟩, rfl⟩) ?_
    clear hK
    refine ptL_nil ?_
    go_wp2
    go_meet
    exact ⟨rfl, rfl, HB⟩
  case rest =>
    obtain ⟨rfl, rfl, b⟩ := hcut
    replace KQ := hid (KQ.out.below b)
    replace H1 := hid (H1.out.below b)
    replace QQ := hid (QQ.out.below b)
    replace WW := hid (grown_on WW.out b)
    clear b x0 x1 q2 q3 q4 q5
    obtain ⟨x0, x1, q2, q3, q4, q5⟩ := bl6 KQ.out
    clear C2
    have hE0 := EE.out _ (List.getElem_mem cj1)
    obtain ⟨ob, hob⟩ : ∃ o, holdN q rs[j + 1].ms = o := ⟨_, rfl⟩
    have Gob := hid hob
    have C2 := hid (fun (u : World) (hu : Below wc.heap.size wc u) (y' : Option Addr) (s' : Nat) (hM : Mats wc y' s' rs[j + 1].ms) => rholds_row rs[j + 1].ms q ob u (hM.below hu) rfl (QQ.out.below hu) hE0 hob)
    clear hE0 hob
    go_upto_region 8 with fail
    go_cut [14, 15] from 52 to 62 (fun vx ve wx => vx = .bool ob ∧ ve = .nilIface ∧ Below wc.heap.size wc wx)
    case first =>
      obtain ⟨b, off, rfl, hbl, y', s', k0, k1, hM⟩ := H1.out.here cj1
      replace C2 := C2.out
      replace C2 := hid (fun u hu => C2 u hu y' s' hM)
      clear k1 hM
      generalize rs[j + 1].ms = mj at *
      have l0 : ∀ s' : Okc wc, s'.val.cell? ⟨w.heap.size, 0, none⟩ = some (.slice y q.N.length s) := fun s' => (s'.keeps.cell (p := ⟨w.heap.size, 0, none⟩) KQ.out.lt).trans x0
      have l1 : ∀ s' : Okc wc, s'.val.cell? ⟨w.heap.size, 1, none⟩ = some (.int .i64 q.ty) := fun s' => (s'.keeps.cell (p := ⟨w.heap.size, 1, none⟩) KQ.out.lt).trans x1
      have l2' : ∀ s' : Okc wc, s'.val.cell? ⟨w.heap.size, 2, none⟩ = some (.int .i64 q.cl) := fun s' => (s'.keeps.cell (p := ⟨w.heap.size, 2, none⟩) KQ.out.lt).trans q2
      have l3 : ∀ s' : Okc wc, s'.val.cell? ⟨w.heap.size, 3, none⟩ = some (.int .i64 q.opc) := fun s' => (s'.keeps.cell (p := ⟨w.heap.size, 3, none⟩) KQ.out.lt).trans q3
      have l4 : ∀ s' : Okc wc, s'.val.cell? ⟨w.heap.size, 4, none⟩ = some (.bool q.rd) := fun s' => (s'.keeps.cell (p := ⟨w.heap.size, 4, none⟩) KQ.out.lt).trans q4
      have l5 : ∀ s' : Okc wc, s'.val.cell? ⟨w.heap.size, 5, none⟩ = some (.slice z q.F.length t) := fun s' => (s'.keeps.cell (p := ⟨w.heap.size, 5, none⟩) KQ.out.lt).trans q5
      have l6 : ∀ s'' : Okc wc, s''.val.cell? ⟨b, off + (j + 1) * 2, none⟩ = some (.slice y' mj.length s') := fun s'' => (s''.keeps.cell (p := ⟨b, off + (j + 1) * 2, none⟩) hbl).trans k0
      have hNe : Nonempty (Okc wc) := ⟨⟨wc, Below.refl _ _⟩⟩
      clear x0 x1 q2 q3 q4 q5 k0
      refine wp_region_pt (.qs [0, 1, 2, 3, 4, 5, 6] (.one 7 (.qs [8, 9, 10] (.one 11 (.one 12 .nil))))) (fun u => ∃ s' : Okc wc, u = s'.val) (by kernel_rfl) (by kernel_rfl) ?_
      refine ptL_qs ⟨⟨wc.drew, (Below.refl _ _).drew⟩, rfl⟩ ?_
      change wpQuiet _ _ _ _ [_, _, _, _, _, _, _] _
      repeat (go_big_quiet_step (fail))
      refine wpQuiet_nil ?_
      have HB := (Below.refl wc.heap.size wc).drew
      clear l0 l1 l2' l3 l4 l5 l6
      refine stepL_at (by rfl) fun K Q' hK => ?_
      go_simp
      refine (C2.out _ HB).mono ?_
      rintro _ u1 ⟨rfl, d1⟩
      replace HB := HB.trans (d1.mono HB.size)
      refine hK _ _ (fun _ => ⟨⟨_, HB⟩, rfl⟩) ?_
      clear hK d1
      refine ptL_qs ⟨⟨_, HB⟩, rfl⟩ ?_
      change wpQuiet _ _ _ _ [_, _, _] _
      repeat (go_big_quiet_step (fail))
      refine wpQuiet_nil ?_
      refine stepL_at (by rfl) fun K Q' hK => ?_
      go_simp
      refine hK _ _ (fun _ => ⟨⟨_, HB⟩, rfl⟩) ?_
      clear hK
      refine stepL_at (by rfl) fun K Q' hK => ?_
      go_simp
      refine hK _ _ (fun _ => ⟨⟨_, HB⟩, rfl⟩) ?_
      clear hK
      refine ptL_nil ?_
      go_wp2
      go_meet
      exact ⟨rfl, rfl, HB⟩
    case rest =>
      obtain ⟨rfl, rfl, b⟩ := hcut
      replace KQ := hid (KQ.out.below b)
      replace H1 := hid (H1.out.below b)
      replace QQ := hid (QQ.out.below b)
      replace WW := hid (grown_on WW.out b)
      clear b x0 x1 q2 q3 q4 q5
      obtain ⟨x0, x1, q2, q3, q4, q5⟩ := bl6 KQ.out
      clear C2
      obtain ⟨b, off, hx, hbl, ya, sa, k0, k1, hMa⟩ := H1.out.here cj
      obtain ⟨b', off', hx', hbl', yb, sb, k2, k3, hMb⟩ := H1.out.here cj1
      subst hx
      simp only [Option.some.injEq, Addr.mk.injEq, and_true] at hx'
      obtain ⟨rfl, rfl⟩ := hx'
      obtain ⟨aj, haj⟩ : ∃ a, rs[j].act = a := ⟨_, rfl⟩
      obtain ⟨aj1, haj1⟩ : ∃ a, rs[j + 1].act = a := ⟨_, rfl⟩
      rw [haj] at k1
      rw [haj1] at k3
      have z1 := k1
      have z3 := k3
      go_upto_region 11 with fail
      go_cut [86] from 69 to 86 (fun vx wx => vx = .bool (oa && ob && !(aj == aj1)) ∧ Below wc.heap.size wc wx)
      case first =>
        clear k0 k2 x0 x1 q2 q3 q4 q5
        cases oa
        · go_quiet (fail)
          go_wp2
          go_meet
          exact ⟨rfl, drawsBelow _ _⟩
        · cases ob
          · go_quiet (fail)
            go_wp2
            go_meet
            exact ⟨rfl, drawsBelow _ _⟩
          · go_quiet (fail)
            go_wp2
            go_meet
            exact ⟨rfl, drawsBelow _ _⟩
      case rest =>
        obtain ⟨rfl, d⟩ := hcut
        obtain ⟨p, hp⟩ : ∃ p, (oa && ob && !(aj == aj1)) = p := ⟨_, rfl⟩
        rw [hp]
        replace H1 := hid (H1.out.below d)
        replace KQ := hid (KQ.out.below d)
        replace QQ := hid (QQ.out.below d)
        replace WW := hid (grown_on WW.out d)
        clear x0 x1 q2 q3 q4 q5 k0 k1 k2 k3 z1 z3 hbl hbl' hMa hMb d
        cases p
        rotate_left
        · go_wp2_with fail
          go_ret
          exact ⟨rfl, WW.out⟩
        have SW : ¬ (oa = true ∧ ob = true) ∨ aj = aj1 := by
          cases oa <;> cases ob <;> simp at hp ⊢
          exact hp
        clear hp
        obtain ⟨M, hM, hI, hA⟩ := ras_re H1.out
        have nM : M.length = l := by rw [← hl, ← hM, List.length_map]
        have R0 : RaRow wc wc.heap.size (World.alloc wc (.cells #[] 25)) (.slice (some ⟨wc.heap.size, 0, none⟩) 0 0) [] := rarow_lit (wp := wc) (B := wc.heap.size) [] (Below.refl _ _) (Nat.le_refl _) (fun e he => by simp at he) (by simp)
        have D0 := boxed 25 wc #[]
        go_upto_region 14 with (first
          | (at_builtin; refine wpList_append_re M rfl _ _ rfl rfl rfl R0 nM (hA.below D0) hI (by simp; omega) (Nat.le_refl _) D0.size ?_; rw [hM, List.nil_append]; intro v4 w4 r4 b4))
        obtain ⟨g, c4, M4, rfl, hc4, hM4, hI4, hBg, hg4, hB4, hcell⟩ := r4.block (by omega)
        clear M4 hM4 hI4 hcell hB4
        have HB := r4.on
        have hbw : b < wc.heap.size := by
          obtain ⟨b7, off7, hx7, hbl7, _⟩ := H1.out.here cj
          simp only [Option.some.injEq, Addr.mk.injEq, and_true] at hx7
          rw [hx7.1]; exact hbl7
        have hbg : b ≠ g := by omega
        obtain ⟨b9, off9, hx9, hbl9, ya, sa, k0, k1, hMa⟩ := H1.out.here cj
        simp only [Option.some.injEq, Addr.mk.injEq, and_true] at hx9
        obtain ⟨rfl, rfl⟩ := hx9
        obtain ⟨b8, off8, hx8, hbl8, yb, sb, k2, k3, hMb⟩ := H1.out.here cj1
        simp only [Option.some.injEq, Addr.mk.injEq, and_true] at hx8
        obtain ⟨rfl, rfl⟩ := hx8
        rw [haj] at k1
        rw [haj1] at k3
        have na : -9223372036854775808 ≤ aj ∧ aj ≤ 9223372036854775807 := by rw [← haj]; exact H1.out.2.2.1 _ (List.getElem_mem cj)
        have nb : -9223372036854775808 ≤ aj1 ∧ aj1 ≤ 9223372036854775807 := by rw [← haj1]; exact H1.out.2.2.1 _ (List.getElem_mem cj1)
        have R5 := r4.put (Nat.le_refl _) j cj ⟨⟨rs[j + 1].ms, aj1⟩, yb, sb⟩ ⟨hMb, nb⟩
        obtain ⟨v0, u0, c0, c1⟩ := r4.at cj
        have f0 := r4.frozen (j * 2)
        have f1 := r4.frozen (j * 2 + 1)
        have m2 : w4.cell? ⟨b, off + (j + 1) * 2, none⟩ = some (.slice yb rs[j + 1].ms.length sb) := (HB.cell (p := ⟨b, off + (j + 1) * 2, none⟩) hbw).trans k2
        have m3 : w4.cell? ⟨b, off + (j + 1) * 2 + 1, none⟩ = some (.int .i64 aj1) := (HB.cell (p := ⟨b, off + (j + 1) * 2 + 1, none⟩) hbw).trans k3
        obtain ⟨W5, hW5⟩ : ∃ W5, (w4.setCell ⟨g, j * 2, none⟩ (.slice yb rs[j + 1].ms.length sb)).setCell ⟨g, j * 2 + 1, none⟩ (.int .i64 aj1) = W5 := ⟨_, rfl⟩
        change RaRow _ _ ((w4.setCell ⟨g, j * 2, none⟩ (.slice yb rs[j + 1].ms.length sb)).setCell ⟨g, j * 2 + 1, none⟩ (.int .i64 aj1)) _ _ at R5
        rw [hW5] at R5
        have HW5 := hid hW5
        clear hW5
        go_upto_region 15 with fail
        rw [HW5.out]
        clear m2 m3 c0 c1 f0 f1 HW5 k2 k3 r4 b4 HB hg4 hc4 D0 R0
        have cj5 : j + 1 < (rs.set j ⟨rs[j + 1].ms, aj1⟩).length := by rw [List.length_set]; exact cj1
        have R6 := R5.put (Nat.le_refl _) (j + 1) cj5 ⟨⟨rs[j].ms, aj⟩, ya, sa⟩ ⟨hMa, na⟩
        obtain ⟨v0, u0, c0, c1⟩ := R5.at cj5
        have f0 := R5.frozen ((j + 1) * 2)
        have f1 := R5.frozen ((j + 1) * 2 + 1)
        have HB := R5.on
        have m2 : W5.cell? ⟨b, off + j * 2, none⟩ = some (.slice ya rs[j].ms.length sa) := (HB.cell (p := ⟨b, off + j * 2, none⟩) hbw).trans k0
        have m3 : W5.cell? ⟨b, off + j * 2 + 1, none⟩ = some (.int .i64 aj) := (HB.cell (p := ⟨b, off + j * 2 + 1, none⟩) hbw).trans k1
        obtain ⟨W6, hW6⟩ : ∃ W6, (W5.setCell ⟨g, (j + 1) * 2, none⟩ (.slice ya rs[j].ms.length sa)).setCell ⟨g, (j + 1) * 2 + 1, none⟩ (.int .i64 aj) = W6 := ⟨_, rfl⟩
        change RaRow _ _ ((W5.setCell ⟨g, (j + 1) * 2, none⟩ (.slice ya rs[j].ms.length sa)).setCell ⟨g, (j + 1) * 2 + 1, none⟩ (.int .i64 aj)) _ _ at R6
        rw [hW6] at R6
        have HW6 := hid hW6
        clear hW6
        go_upto_region 16 with fail
        rw [HW6.out]
        clear m2 m3 c0 c1 f0 f1 HW6 k0 k1 R5 HB
        have e1 : (⟨rs[j + 1].ms, aj1⟩ : Ra) = rs[j + 1] := by rw [← haj1]
        have e2 : (⟨rs[j].ms, aj⟩ : Ra) = rs[j] := by rw [← haj]
        rw [e1, e2] at R6
        obtain ⟨hz, hd⟩ := chain_swap (q := q) (other := other) cj1 HK.out (by rw [Goa.out, Gob.out, haj, haj1]; exact SW)
        have HB := R6.on
        obtain ⟨x6, c6, hv6, hm6⟩ := R6.ras (by rw [List.length_set, List.length_set]; omega)
        simp only [Value.slice.injEq] at hv6
        obtain ⟨rfl, hv6, rfl⟩ := hv6
        have CD := hid (fun (la : Nat) (hla : ((rs.set j rs[j + 1]).set (j + 1) rs[j]).length = la) => cdo_any other d 0 .nilIface _ q W6 hm6 hla (QQ.out.below HB) hz (hd.trans HD.out) rfl)
        obtain ⟨x0, x1, q2, q3, q4, q5⟩ := bl6 (KQ.out.below HB)
        replace WW := hid (grown_on WW.out HB)
        clear hm6 R6 HB hz hd e1 e2 hMa hMb
        go_wp2_with fail
        refine (CD.out _ (by simp only [List.length_set]; omega)).mono ?_
        rintro _ w7 ⟨rfl, b7⟩
        replace WW := hid (grown_on WW.out b7)
        clear b7 CD
        go_wp2_with fail
        go_ret
        exact ⟨rfl, WW.out⟩

end Go.Proofs.Ytnbabdfcamdapaa.Ru
