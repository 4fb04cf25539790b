/-
  The walk of package rule's read: the tree of a rule, or what is wrong with it; and of Check. A LAW OF MY OWN: as ForkT's, and an operation whose guard is off may stand alone in a phase: it is passed over. The walk of package rule's holds, by the tree. What package rule's Check and Holds answer. What package chain's own functions answer. The walk of the laws' own chained.
-/
import Derived.Test.YtnbabdfcamdapaaDoorRcGrow
import Derived.Test.YtnbabdfcamdapaaDoorForkT
import Derived.Test.YtnbabdfcamdapaaDoorJF
namespace Go.Proofs.YtnbabdfcamdapaaDoor.Ru
open Go.RowKit Go.Deep

/-- What read hands back. -/
def ReadP (r : List Mt) (w : World) (e : Ending) (w' : World) : Prop :=
  Below w.heap.size w w' ∧
    ((ruleE r = 0 ∧ ∃ t cs, flat t = r ∧ wf t ∧ TIs w w' (fun k => w.heap.size ≤ k) t cs ∧ e = .returned (.tuple #[.agg cs.toArray, .nilIface])) ∨
      (¬ ruleE r = 0 ∧ e = .returned (.tuple #[.agg #[.int .i64 0, .int .i64 0, .slice none 0 0, .slice none 0 0, .slice none 0 0], .iface 28 (.int .i64 (ruleE r))])))

theorem firstE_split : ∀ (a : List Mt) (m : Mt) (b : List Mt), (∀ x ∈ a, matchE x = 0) → ¬ matchE m = 0 → firstE (a ++ m :: b) = matchE m
  | [], m, b, _, h => by rw [List.nil_append]; unfold firstE; rw [if_pos h]
  | x :: a, m, b, h, k => by
    rw [List.cons_append]
    unfold firstE
    rw [if_neg (by simpa using h x List.mem_cons_self)]
    exact firstE_split a m b (fun y hy => h y (List.mem_cons_of_mem _ hy)) k

theorem ruleE_long {r : List Mt} (h : 200 < r.length) : ruleE r = 7 := by unfold ruleE; rw [if_pos h]

theorem ruleE_node' {r : List Mt} {i : Nat} (h : ¬ 200 < r.length) (hi : i < r.length) (ha : ∀ m ∈ r.take i, matchE m = 0) (hm : ¬ matchE r[i] = 0) : ruleE r = matchE r[i] := by
  have e : r = r.take i ++ r[i] :: r.drop (i + 1) := by
    have := List.take_append_drop i r
    rw [List.drop_eq_getElem_cons hi] at this
    exact this.symm
  have f : firstE r = matchE r[i] := by
    have := firstE_split (r.take i) r[i] (r.drop (i + 1)) ha hm
    rwa [← e] at this
  unfold ruleE
  rw [if_neg h, f, if_pos hm]

theorem ruleE_all {r : List Mt} (h : ¬ 200 < r.length) (ha : ∀ m ∈ r, matchE m = 0) : ruleE r = if cntN 0 r = some 1 then 0 else 1 := by
  unfold ruleE
  rw [if_neg h, if_neg (by rw [firstE_zero.2 ha]; decide)]

theorem one_stack {r : List Mt} : cntN 0 r = some 1 ↔ ∃ t, stackN [] r = some [t] := by
  have e := stackN_cnt r []
  rw [List.length_nil] at e
  rw [← e]
  constructor
  · intro h
    cases hs : stackN [] r with
    | none => rw [hs] at h; cases h
    | some s =>
      rw [hs] at h
      have hl : s.length = 1 := by simpa using h
      match s, hl with
      | [t], _ => exact ⟨t, rfl⟩
  · rintro ⟨t, ht⟩
    rw [ht]; rfl

theorem results_read (tmps : Array Value) (w : World) (b : Nat) (v0 v1 v2 v3 v4 v : Value) (hp : tmps.getD 2 undef = .pointer (some ⟨b, 0, none⟩)) (h3 : tmps.getD 3 undef = v) (hb : Bl 58 w b #[v0, v1, v2, v3, v4]) :
    (results Tryd.f20 tmps).run Tryd.prog w = .ok (.tuple #[.agg #[v0, v1, v2, v3, v4], v]) w := by
  have c0 : w.cell? ⟨b, 0, none⟩ = some v0 := hb.cell (i := 0) rfl
  have c1 : w.cell? ⟨b, 1, none⟩ = some v1 := hb.cell (i := 1) rfl
  have c2 : w.cell? ⟨b, 2, none⟩ = some v2 := hb.cell (i := 2) rfl
  have c3 : w.cell? ⟨b, 3, none⟩ = some v3 := hb.cell (i := 3) rfl
  have c4 : w.cell? ⟨b, 4, none⟩ = some v4 := hb.cell (i := 4) rfl
  have hp' : tmps[2]?.getD undef = .pointer (some ⟨b, 0, none⟩) := by simpa using hp
  have h3' : tmps[3]?.getD undef = v := by simpa using h3
  simp [results, Tryd.results20, go_sem, hp', h3', c0, c1, c2, c3, c4]

set_option maxHeartbeats 4000000 in
set_option maxRecDepth 100000 in
theorem read_any {x : Option Addr} {c l : Nat} (r : List Mt) (w : World) (h : Mats w x c r) (hl : r.length = l) : Calls Tryd.prog 20 #[.slice x l c] w (ReadP r w) := by
  subst hl
  have K0 := Bl.new 58 w #[.int .i64 0, .int .i64 0, .slice none 0 0, .slice none 0 0, .slice none 0 0]
  have B0 := boxed 58 w #[.int .i64 0, .int .i64 0, .slice none 0 0, .slice none 0 0, .slice none 0 0]
  have HH := hid h
  have hlen := h.2.1
  obtain ⟨W0, hW⟩ : ∃ W0, w.alloc (.cells #[.int .i64 0, .int .i64 0, .slice none 0 0, .slice none 0 0, .slice none 0 0] 58) = W0 := ⟨_, rfl⟩
  rw [hW] at K0 B0
  have KK := hid K0
  have BB := hid B0
  have HW := hid hW
  clear K0 B0 h hW
  by_cases c200 : 200 < r.length
  · have E := hid (ruleE_long c200)
    have c2 : (200 : Int) < (r.length : Int) := by omega
    go_enter Tryd.func20, Tryd.ntmps20
    go_upto_region 1 with fail
    rw [HW.out]
    clear HW
    obtain ⟨z0, z1, z2, z3, z4⟩ := bl5 KK.out
    have y0 := KK.out.frozen 0
    have y1 := KK.out.frozen 1
    have y2 := KK.out.frozen 2
    have y3 := KK.out.frozen 3
    have y4 := KK.out.frozen 4
    go_wp2_with fail
    refine bodyPost_ret (results_read _ _ w.heap.size _ _ _ _ _ _ rfl rfl (put5' KK.out _ _ _ _ _)) rfl ?_
    exact ⟨below5' BB.out (Nat.le_refl _) _ _ _ _ _, Or.inr ⟨by rw [E.out]; decide, by rw [E.out]; rfl⟩⟩
  have c2 : ¬ (200 : Int) < (r.length : Int) := by omega
  go_enter Tryd.func20, Tryd.ntmps20
  go_upto_region 1 with fail
  rw [HW.out]
  clear HW
  go_wp2_with fail
  go_loopw [14] (fun vi wr => ∃ i : Nat, i ≤ r.length ∧ vi = .int .i64 (i : Int) ∧ (∀ m ∈ r.take i, matchE m = 0) ∧ Bl 58 wr w.heap.size #[.int .i64 0, .int .i64 0, .slice none 0 0, .slice none 0 0, .slice none 0 0] ∧ Below w.heap.size w wr) (fun vi _ => r.length - (intOf vi).toNat)
  case atStart => exact ⟨0, Nat.zero_le _, rfl, fun m hm => by simp at hm, KK.out, BB.out⟩
  case round =>
    clear KK BB
    obtain ⟨i, hi, rfl, hall, hbl, hbel⟩ := hrel
    by_cases ci : i < r.length
    rotate_left
    · have ei : i = r.length := by omega
      subst ei
      rw [List.take_of_length_le (Nat.le_refl _)] at hall
      have c3 : ¬ (r.length : Int) < (r.length : Int) := by omega
      have E := hid (ruleE_all c200 hall)
      have GR := hid (grow_any (l := r.length) r w wr HH.out hbel rfl (by omega))
      have KK := hid hbl
      have BB := hid hbel
      have LT := hid hbl.lt
      clear hbl hbel hall
      go_wp2_with fail
      refine GR.out.mono ?_
      rintro e w2 ⟨b2, ⟨t, cs, hst, hT, rfl⟩ | ⟨hno, rfl⟩⟩
      · have hfl := stackN_flats r [] [t] hst
        have hwf := stackN_wf r [] [t] hst (fun t ht => by simp at ht) t List.mem_cons_self
        have E0 : Hid (ruleE r = 0) := hid (by rw [E.out, if_pos (one_stack.2 ⟨t, hst⟩)])
        have HF : Hid (flat t = r) := hid (by simpa [flats] using hfl)
        have HWf := hid hwf
        replace KK := hid (KK.out.below b2)
        have hlt := LT.out
        replace BB := hid (grown_on BB.out b2)
        obtain ⟨e5, x5, n5, c5, rfl⟩ := hT.form
        have hT2 : Hid (∀ v0 v1 v2 v3 v4, TIs w (((((w2.setCell ⟨w.heap.size, 0, none⟩ v0).setCell ⟨w.heap.size, 1, none⟩ v1).setCell ⟨w.heap.size, 2, none⟩ v2).setCell ⟨w.heap.size, 3, none⟩ v3).setCell ⟨w.heap.size, 4, none⟩ v4) (fun k => w.heap.size ≤ k) t (tcells e5 x5 n5 c5)) := hid (fun v0 v1 v2 v3 v4 => hT.mono (by simp) fun k _ hk => ⟨by have := hk; omega, five_above (by have := hk; omega) v0 v1 v2 v3 v4⟩)
        have e : (tcells e5 x5 n5 c5).toArray = #[.int .i64 e5.m.op, .int .i64 e5.m.n, .slice e5.y e5.m.N.length e5.s, .slice e5.z e5.m.A.length e5.t, .slice x5 n5 c5] := rfl
        rw [e]
        clear e hT hst hfl hwf b2 hlt
        obtain ⟨z0, z1, z2, z3, z4⟩ := bl5 KK.out
        have y0 := KK.out.frozen 0
        have y1 := KK.out.frozen 1
        have y2 := KK.out.frozen 2
        have y3 := KK.out.frozen 3
        have y4 := KK.out.frozen 4
        go_wp2_with fail
        refine bodyPost_ret (results_read _ _ w.heap.size _ _ _ _ _ _ rfl rfl (put5' KK.out _ _ _ _ _)) rfl ?_
        exact ⟨below5' BB.out (Nat.le_refl _) _ _ _ _ _, Or.inl ⟨E0.out, t, tcells e5 x5 n5 c5, HF.out, HWf.out, hT2.out _ _ _ _ _, rfl⟩⟩
      · have E0 : Hid (ruleE r = 1) := hid (by rw [E.out, if_neg (fun q => hno (one_stack.1 q))])
        replace KK := hid (KK.out.below b2)
        replace BB := hid (grown_on BB.out b2)
        clear hno b2
        obtain ⟨z0, z1, z2, z3, z4⟩ := bl5 KK.out
        have y0 := KK.out.frozen 0
        have y1 := KK.out.frozen 1
        have y2 := KK.out.frozen 2
        have y3 := KK.out.frozen 3
        have y4 := KK.out.frozen 4
        go_wp2_with fail
        refine bodyPost_ret (results_read _ _ w.heap.size _ _ _ _ _ _ rfl rfl (put5' KK.out _ _ _ _ _)) rfl ?_
        exact ⟨below5' BB.out (Nat.le_refl _) _ _ _ _ _, Or.inr ⟨by rw [E0.out]; decide, by rw [E0.out]; rfl⟩⟩
    · obtain ⟨b0, o0, rfl, hb0, qa⟩ := HH.out.all (by omega)
      obtain ⟨y, s, z, t, p0, p1, p2, p3, q1, q2, q3⟩ := qa i ci
      have hcap := HH.out.1
      have e0 := (hbel.cell (p := ⟨b0, o0 + i * 4, none⟩) hb0).trans p0
      have e1 := (hbel.cell (p := ⟨b0, o0 + i * 4 + 1, none⟩) hb0).trans p1
      have e2 := (hbel.cell (p := ⟨b0, o0 + i * 4 + 2, none⟩) hb0).trans p2
      have e3 := (hbel.cell (p := ⟨b0, o0 + i * 4 + 3, none⟩) hb0).trans p3
      have GN : Hid (matchE r[i] = 0 → ∀ m ∈ r.take (i + 1), matchE m = 0) := hid (fun h m hm => by
        rw [← List.take_append_getElem ci] at hm
        rcases List.mem_append.1 hm with hm | hm
        · exact hall m hm
        · rw [List.mem_singleton.1 hm]; exact h)
      have BN : Hid (¬ matchE r[i] = 0 → ruleE r = matchE r[i]) := hid (fun h => ruleE_node' c200 ci hall h)
      clear qa p0 p1 p2 p3 hall
      generalize r[i] = m at *
      have ci2 : (i : Int) < (r.length : Int) := by omega
      have BA := boxed 44 wr #[.int .i64 m.op, .int .i64 m.n, .slice y m.N.length s, .slice z m.A.length t]
      have K1 := hid (Bl.new 44 wr #[.int .i64 m.op, .int .i64 m.n, .slice y m.N.length s, .slice z m.A.length t])
      obtain ⟨W1, hW⟩ : ∃ W1, wr.alloc (.cells #[.int .i64 m.op, .int .i64 m.n, .slice y m.N.length s, .slice z m.A.length t] 44) = W1 := ⟨_, rfl⟩
      rw [hW] at BA K1
      have HW := hid hW
      have KK := hid (hbl.below BA)
      have BB := hid (grown_on hbel BA)
      have SS := hid ((q1.below hbel).below BA)
      have DD := hid ((q2.below hbel).below BA)
      clear hbl hbel BA q1 q2 q3 hW
      obtain ⟨m0, m1, m2, m3⟩ := bl4 K1.out
      go_upto_region 6 with fail
      rw [HW.out]
      clear HW e0 e1 e2 e3
      by_cases cm : matchE m = 0
      · have CK := hid (ncheck_any m .nilIface W1 SS.out DD.out (by rw [cm]; rfl))
        replace GN := hid (GN.out cm)
        clear cm BN
        go_wp2_with fail
        refine CK.out.mono ?_
        rintro e w2 ⟨rfl, b2⟩
        replace KK := hid (KK.out.below b2)
        replace BB := hid (grown_on BB.out b2)
        clear b2 CK m0 m1 m2 m3
        go_wp2_with fail
        exact ⟨⟨i + 1, by omega, by go_num, GN.out, KK.out, BB.out⟩, by simp [intOf]; omega⟩
      · have CK := hid (ncheck_any m (.iface 28 (.int .i64 (matchE m))) W1 SS.out DD.out (errV_some cm))
        have E0 := hid (BN.out cm)
        have CM := hid cm
        clear cm BN GN
        generalize matchE m = k at *
        go_wp2_with fail
        refine CK.out.mono ?_
        rintro e w2 ⟨rfl, b2⟩
        replace KK := hid (KK.out.below b2)
        replace BB := hid (grown_on BB.out b2)
        clear b2 CK m0 m1 m2 m3
        obtain ⟨z0, z1, z2, z3, z4⟩ := bl5 KK.out
        have y0 := KK.out.frozen 0
        have y1 := KK.out.frozen 1
        have y2 := KK.out.frozen 2
        have y3 := KK.out.frozen 3
        have y4 := KK.out.frozen 4
        go_wp2_with fail
        refine bodyPost_ret (results_read _ _ w.heap.size _ _ _ _ _ _ rfl rfl (put5' KK.out _ _ _ _ _)) rfl ?_
        exact ⟨below5' BB.out (Nat.le_refl _) _ _ _ _ _, Or.inr ⟨by rw [E0.out]; exact CM.out, by rw [E0.out]; rfl⟩⟩

end Go.Proofs.YtnbabdfcamdapaaDoor.Ru

namespace Go.Proofs.YtnbabdfcamdapaaDoor
open Go

section
variable {P : Program} {Q : Exit → Act → World → Prop} {md : Region.Mode} {S : World → Prop}

def stepU (P : Program) (l : List Oper) (Q : Exit → Act → World → Prop) (S : World → Prop) (brk k : Nat) (K : Act → World → Prop) (a : Act) (w : World) : Prop :=
  match l[k]? with
  | some o => if Region.wanted o (yielded l.toArray a.tmps) = true then o.wp P a w (fun a' w' => (k < brk → S w') ∧ K a' w') Q else (k < brk → S w) ∧ K (a.put o.dst undef) w
  | none => False

theorem wpOp_stepU {l : List Oper} {brk k m : Nat} {listed : Array Bool} {K : Act → World → Prop} {a : Act} {w : World} (h : stepU P l Q S brk k K a w)
    (hK : ∀ a' w', K a' w' → anyB P md l.toArray Q S brk m (listed.setIfInBounds k true) a' w') :
    wpOp P l.toArray Q k (fun a' w' => (k < brk → S w') ∧ anyB P md l.toArray Q S brk m (listed.setIfInBounds k true) a' w') a w := by
  unfold stepU at h
  unfold wpOp
  rw [List.getElem?_toArray]
  cases h0 : l[k]? with
  | none => rw [h0] at h; exact h.elim
  | some o =>
    rw [h0] at h
    simp only at h ⊢
    by_cases hw : Region.wanted o (yielded l.toArray a.tmps) = true
    · rw [if_pos hw] at h
      simp only [hw, if_true]
      exact .inl (Oper.wp_mono (fun a' w' hq => ⟨hq.1, hK a' w' hq.2⟩) h)
    · rw [if_neg hw] at h
      rw [if_neg hw]
      exact ⟨h.1, hK _ _ h.2⟩

theorem stepU_at {l : List Oper} {brk k : Nat} {K : Act → World → Prop} {o : Oper} {a : Act} {w : World} (h0 : l[k]? = some o)
    (h : ∀ (K' : Act → World → Prop) (Q' : Exit → Act → World → Prop), (∀ a' w', (k < brk → S w') → K a' w' → K' a' w') → o.wp P a w K' Q') (hw : Region.wanted o (yielded l.toArray a.tmps) = true := by rfl) : stepU P l Q S brk k K a w := by
  unfold stepU
  rw [h0]
  simp only
  rw [if_pos hw]
  exact h _ _ fun _ _ h1 h2 => ⟨h1, h2⟩

/-- Its guard is off. -/
theorem stepU_off {l : List Oper} {brk k : Nat} {K : Act → World → Prop} {o : Oper} {a : Act} {w : World} (h0 : l[k]? = some o)
    (hS : S w) (h : K (a.put o.dst undef) w) (hw : Region.wanted o (yielded l.toArray a.tmps) = false := by rfl) : stepU P l Q S brk k K a w := by
  unfold stepU
  rw [h0]
  simp only
  rw [if_neg (by rw [hw]; decide)]
  exact ⟨fun _ => hS, h⟩

end

section
variable {P : Program} {Q : Exit → Act → World → Prop} {md : Region.Mode} {S : World → Prop}

/-- What is asked, phase by phase. -/
def utL (P : Program) (l : List Oper) (Q : Exit → Act → World → Prop) (S : World → Prop) (brk : Nat) : Pt → Act → World → Prop
  | .nil, a, w => Q .normal a w
  | .one k t, a, w => stepU P l Q S brk k (utL P l Q S brk t) a w
  | .two k1 t1 k2 t2, a, w => stepU P l Q S brk k1 (utL P l Q S brk t1) a w ∧ stepU P l Q S brk k2 (utL P l Q S brk t2) a w
  | .qs idx t, a, w => S w ∧ wpQuiet P l.toArray S (fun a' => utL P l Q S brk t a' w) (idx.filterMap (fun k => l[k]?)) a

theorem anyB_ut {l : List Oper} {brk : Nat} (hs : Region.noSelect l.toArray = true) (hQ : ∀ c a a' w, Q (.panic c) a w → Q (.panic c) a' w)
    (hbrk : ∀ i, i < brk → ∀ (j : Nat) (oj : Oper), l.toArray[j]? = some oj → ¬ j < brk → ∃ e ∈ oj.after, Region.binds md e = true ∧ e.on = i) :
    ∀ (t : Pt) (listed : Array Bool) (a : Act) (w : World), listed.size = l.toArray.size → ptB md l.toArray brk t listed = true → utL P l Q S brk t a w → anyB P md l.toArray Q S brk t.depth listed a w
  | .nil, listed, a, w, _, hB, h => ⟨by simpa [ptB] using hB, h⟩
  | .one k t, listed, a, w, hls, hB, h => by
    simp only [ptB, Bool.and_eq_true] at hB
    obtain ⟨hr, hB'⟩ := hB
    have hr' : Region.ready md l.toArray listed = [k] := by simpa using hr
    refine ⟨fun q => (by rw [hr'] at q; cases q), fun i hi => ?_⟩
    rw [hr'] at hi
    obtain rfl : i = k := by simpa using hi
    exact wpOp_stepU h (fun a' w' h' => anyB_ut hs hQ hbrk t _ a' w' (by simp [hls]) hB' h')
  | .two k1 t1 k2 t2, listed, a, w, hls, hB, h => by
    simp only [ptB, Bool.and_eq_true] at hB
    obtain ⟨⟨⟨hr, hd⟩, hB1⟩, hB2⟩ := hB
    have hr' : Region.ready md l.toArray listed = [k1, k2] := by simpa using hr
    have hd' : t1.depth = t2.depth := by simpa using hd
    refine ⟨fun q => (by rw [hr'] at q; cases q), fun i hi => ?_⟩
    rw [hr'] at hi
    have hi' : i = k1 ∨ i = k2 := by simpa using hi
    rcases hi' with rfl | rfl
    · exact wpOp_stepU h.1 (fun a' w' h' => anyB_ut hs hQ hbrk t1 _ a' w' (by simp [hls]) hB1 h')
    · exact wpOp_stepU h.2 (fun a' w' h' => by have := anyB_ut hs hQ hbrk t2 _ a' w' (by simp [hls]) hB2 h'; rw [← hd'] at this; exact this)
  | .qs idx t, listed, a, w, hls, hB, h => by
    simp only [ptB, Bool.and_eq_true] at hB
    exact anyB_quiet hs hQ hbrk idx listed a w hls hB.1 h.1 h.2 (fun a' ha => anyB_ut hs hQ hbrk t _ a' w (by rw [setAll_size]; exact hls) hB.2 ha)

/-- THE LAW. -/
theorem wp_region_ut {l : List Oper} (t : Pt) {id : Nat} {a : Act} {w : World} (S : World → Prop) (hm : P.follows .mixedOrders = true)
    (hB : (Region.noSelect l.toArray && ptB .any l.toArray l.length t (Array.replicate l.length false) && decide (t.depth = l.length)) = true)
    (h : utL P l (Calm Q) S l.length t a w.drew) : (Code.region id l.toArray true).wp P Q a w := by
  refine wp_mono ?_ calm_imp
  refine wp_region_any hm ?_
  simp only [Bool.and_eq_true, decide_eq_true_eq] at hB
  obtain ⟨⟨hs, hT⟩, hlen⟩ := hB
  have key := anyB_ut (P := P) (l := l) (Q := Calm Q) (md := .any) (S := S) (brk := l.length) hs (fun c a a' w q => q.elim)
    (fun i hi j oj hj hjb => by
      exfalso
      simp only [List.getElem?_toArray] at hj
      exact hjb (List.getElem?_eq_some_iff.1 hj).1) t (Array.replicate l.length false) a w.drew (by simp) hT h
  have := wpAny_of_anyB _ _ _ _ key
  rw [hlen] at this
  simpa using this

theorem utL_nil {l : List Oper} {brk : Nat} {a : Act} {w : World} (h : Q .normal a w) : utL P l (Calm Q) S brk .nil a w := h

theorem utL_qs {l : List Oper} {brk : Nat} {idx : List Nat} {t : Pt} {a : Act} {w : World} (hS : S w) (h : wpQuiet P l.toArray S (fun a' => utL P l Q S brk t a' w) (idx.filterMap (fun k => l[k]?)) a) : utL P l Q S brk (.qs idx t) a w := ⟨hS, h⟩

end

end Go.Proofs.YtnbabdfcamdapaaDoor

namespace Go.Proofs.YtnbabdfcamdapaaDoor.Ru
open Go.RowKit Go.Deep

theorem takes_one {op : Int} (h : takes op = 1) : op = 8 := by
  unfold takes at h
  split at h
  · assumption
  · split at h <;> cases h

theorem takes_two {op : Int} (h : takes op = 2) : op = 9 ∨ op = 10 := by
  unfold takes at h
  split at h
  · cases h
  · split at h
    · assumption
    · cases h

theorem takes_none {op : Int} (h : takes op = 0) : (op == 8) = false ∧ (op == 9) = false ∧ (op == 10) = false := by
  unfold takes at h
  split at h
  · cases h
  · split at h
    · cases h
    · rename_i h1 h2
      simp
      omega

/-- A tree's values, each by itself. -/
theorem tcells_arr (m : Mt) (y1 : Option Addr) (s1 : Nat) (z1 : Option Addr) (t1 : Nat) (x : Option Addr) (n c : Nat) : (tcells ⟨m, y1, s1, z1, t1⟩ x n c).toArray = #[.int .i64 m.op, .int .i64 m.n, .slice y1 m.N.length s1, .slice z1 m.A.length t1, .slice x n c] := rfl

/-- What a call of holds answers. -/
def HoldsC (q : Qy) (tr : T) (y : Option Addr) (s : Nat) (z : Option Addr) (t : Nat) : Prop :=
  ∀ (v : Bool) (P : Nat → Prop) (m : Mt) (y1 : Option Addr) (s1 : Nat) (z1 : Option Addr) (t1 : Nat) (x : Option Addr) (n c : Nat) (u w : World), TIs u u P tr (tcells ⟨m, y1, s1, z1, t1⟩ x n c) → Below u.heap.size u w → QyIs w q y s z t → wf tr → (∀ m ∈ flat tr, matchE m = 0) → ev q tr = v →
    Calls Tryd.prog 25 #[.agg #[.int .i64 m.op, .int .i64 m.n, .slice y1 m.N.length s1, .slice z1 m.A.length t1, .slice x n c], .agg #[.slice y q.N.length s, .int .i64 q.ty, .int .i64 q.cl, .int .i64 q.opc, .bool q.rd, .slice z q.F.length t]] w fun e w' => e = .returned (.bool v) ∧ Below w.heap.size w w'

set_option maxHeartbeats 4000000 in
set_option maxRecDepth 100000 in
theorem holds_leaf (q : Qy) (mm : Mt) {y z : Option Addr} {s t : Nat} : HoldsC q (.leaf mm) y s z t := by
  intro v P m y1 s1 z1 t1 x n c u w hT hu hq hw hE hv
  obtain ⟨e, x', c', rfl, he, hme⟩ := hT
  simp only [tcells, List.cons.injEq, and_true, Value.int.injEq, true_and, Value.slice.injEq] at he
  obtain ⟨e1, e2, ⟨rfl, e3, rfl⟩, ⟨rfl, e4, rfl⟩, rfl, rfl, rfl⟩ := he
  obtain ⟨m', y1, s1, z1, t1⟩ := e
  simp only at *
  rw [e1, e2, e3, e4]
  clear e1 e2 e3 e4 m
  have hm0 : takes m'.op = 0 := hw
  have hme0 : matchE m' = 0 := hE m' List.mem_cons_self
  have hm1 := hme.below hu
  obtain ⟨B2, B1, B3⟩ := rlTwo 58 26 w #[.int .i64 m'.op, .int .i64 m'.n, .slice y1 m'.N.length s1, .slice z1 m'.A.length t1, .slice x 0 c] #[.slice y q.N.length s, .int .i64 q.ty, .int .i64 q.cl, .int .i64 q.opc, .bool q.rd, .slice z q.F.length t]
  obtain ⟨W1, hW⟩ : ∃ W1, (w.alloc (.cells #[.int .i64 m'.op, .int .i64 m'.n, .slice y1 m'.N.length s1, .slice z1 m'.A.length t1, .slice x 0 c] 58)).alloc (.cells #[.slice y q.N.length s, .int .i64 q.ty, .int .i64 q.cl, .int .i64 q.opc, .bool q.rd, .slice z q.F.length t] 26) = W1 := ⟨_, rfl⟩
  rw [hW] at B1 B2 B3
  have HW := hid hW
  have CB := hid (nasks_at q m' v W1 (hm1.below B3).1 (hm1.below B3).2.1 (hm1.below B3).2.2.1 (hq.below B3) hm0 hme0 hv)
  have WW := hid B3
  obtain ⟨q0, q1, q2, q3, q4, q5⟩ := bl6 B1
  obtain ⟨m0, m1, m2, m3, m4⟩ := bl5 B2
  obtain ⟨d8, d9, d10⟩ := takes_none hm0
  clear hq hE hw hv hme hm1 hu B1 B2 B3 hW hm0 hme0
  go_enter Tryd.func25, Tryd.ntmps25
  go_upto_region 1 with fail
  rw [HW.out]
  clear HW
  go_wp2_with fail
  refine CB.out.mono ?_
  rintro e w2 ⟨rfl, b2⟩
  have W2 := hid (WW.out.trans (b2.mono WW.out.size))
  clear b2 CB
  go_wp2_with fail
  go_ret
  exact ⟨rfl, W2.out⟩

set_option maxHeartbeats 4000000 in
set_option maxRecDepth 100000 in
theorem holds_one (q : Qy) (mm : Mt) (a : T) {y z : Option Addr} {s t : Nat} (ih : HoldsC q a y s z t) : HoldsC q (.one mm a) y s z t := by
  intro v P m y1 s1 z1 t1 x n c u w hT hu hq hw hE hv
  obtain ⟨e, g, c', ca, rfl, he, hme, hg, hPg, hc, hcs, ha⟩ := hT
  obtain ⟨ea, xa, na, cA, rfl⟩ := ha.form
  simp only [tcells, List.cons.injEq, and_true, Value.int.injEq, true_and, Value.slice.injEq] at he
  obtain ⟨e1, e2, ⟨rfl, e3, rfl⟩, ⟨rfl, e4, rfl⟩, rfl, rfl, rfl⟩ := he
  obtain ⟨m', y1, s1, z1, t1⟩ := e
  obtain ⟨ma, ya, sa, za, ta⟩ := ea
  simp only at *
  have h8 : m'.op = 8 := takes_one hw.1
  rw [e1, e2, e3, e4, h8]
  clear e1 e2 e3 e4 m hme
  obtain ⟨va, hva⟩ : ∃ va, ev q a = va := ⟨_, rfl⟩
  have C := fun (wx : World) (hx : Below u.heap.size u wx) (hqx : QyIs wx q y s z t) => ih va P ma ya sa za ta xa na cA u wx ha hx hqx hw.2 (fun m hm => hE m (by unfold flat; exact List.mem_append_left _ hm)) hva
  have hV : (!va) = v := by rw [← hv, ← hva]; rfl
  subst hV
  obtain ⟨B2, B1, B3⟩ := rlTwo 58 26 w #[.int .i64 8, .int .i64 m'.n, .slice y1 m'.N.length s1, .slice z1 m'.A.length t1, .slice (some ⟨g, 0, none⟩) 1 c] #[.slice y q.N.length s, .int .i64 q.ty, .int .i64 q.cl, .int .i64 q.opc, .bool q.rd, .slice z q.F.length t]
  obtain ⟨W1, hW⟩ : ∃ W1, (w.alloc (.cells #[.int .i64 8, .int .i64 m'.n, .slice y1 m'.N.length s1, .slice z1 m'.A.length t1, .slice (some ⟨g, 0, none⟩) 1 c] 58)).alloc (.cells #[.slice y q.N.length s, .int .i64 q.ty, .int .i64 q.cl, .int .i64 q.opc, .bool q.rd, .slice z q.F.length t] 26) = W1 := ⟨_, rfl⟩
  rw [hW] at B1 B2 B3
  have HW := hid hW
  have WW := hid B3
  have UU := hid (hu.trans (B3.mono hu.size))
  have QQ := hid (hq.below B3)
  have CC := hid C
  have A1 := hid B1
  have A2 := hid B2
  have GG := hid hg
  have j0 := hcs 0 _ rfl
  have j1 := hcs 1 _ rfl
  have j2 := hcs 2 _ rfl
  have j3 := hcs 3 _ rfl
  have j4 := hcs 4 _ rfl
  have k0 : W1.cell? ⟨w.heap.size, 0, none⟩ = some (.int .i64 8) := (bl5 B2).1
  clear hq hE hw hv hu B1 B2 B3 hW C hcs ha hva ih
  go_enter Tryd.func25, Tryd.ntmps25
  go_upto_region 1 with fail
  rw [HW.out]
  clear HW
  go_upto_region 3 with fail
  obtain ⟨q0, q1, q2, q3, q4, q5⟩ := bl6 A1.out
  have m4 := (bl5 A2.out).2.2.2.2
  have l0 : ∀ s' : Od W1, s'.val.cell? ⟨w.heap.size + 1, 0, none⟩ = some (.slice y q.N.length s) := fun s' => (s'.keeps.cell (p := ⟨w.heap.size + 1, 0, none⟩) A1.out.lt).trans q0
  have l1 : ∀ s' : Od W1, s'.val.cell? ⟨w.heap.size + 1, 1, none⟩ = some (.int .i64 q.ty) := fun s' => (s'.keeps.cell (p := ⟨w.heap.size + 1, 1, none⟩) A1.out.lt).trans q1
  have l2 : ∀ s' : Od W1, s'.val.cell? ⟨w.heap.size + 1, 2, none⟩ = some (.int .i64 q.cl) := fun s' => (s'.keeps.cell (p := ⟨w.heap.size + 1, 2, none⟩) A1.out.lt).trans q2
  have l3 : ∀ s' : Od W1, s'.val.cell? ⟨w.heap.size + 1, 3, none⟩ = some (.int .i64 q.opc) := fun s' => (s'.keeps.cell (p := ⟨w.heap.size + 1, 3, none⟩) A1.out.lt).trans q3
  have l4 : ∀ s' : Od W1, s'.val.cell? ⟨w.heap.size + 1, 4, none⟩ = some (.bool q.rd) := fun s' => (s'.keeps.cell (p := ⟨w.heap.size + 1, 4, none⟩) A1.out.lt).trans q4
  have l5 : ∀ s' : Od W1, s'.val.cell? ⟨w.heap.size + 1, 5, none⟩ = some (.slice z q.F.length t) := fun s' => (s'.keeps.cell (p := ⟨w.heap.size + 1, 5, none⟩) A1.out.lt).trans q5
  have l6 : ∀ s' : Od W1, s'.val.cell? ⟨w.heap.size, 4, none⟩ = some (.slice (some ⟨g, 0, none⟩) 1 c) := fun s' => (s'.keeps.cell (p := ⟨w.heap.size, 4, none⟩) A2.out.lt).trans m4
  have lg : g < W1.heap.size := Nat.lt_of_lt_of_le GG.out UU.out.size
  have i0 : ∀ s' : Od W1, s'.val.cell? ⟨g, 0, none⟩ = some (.int .i64 ma.op) := fun s' => (s'.keeps.cell (p := ⟨g, 0, none⟩) lg).trans ((UU.out.cell (p := ⟨g, 0, none⟩) GG.out).trans j0)
  have i1 : ∀ s' : Od W1, s'.val.cell? ⟨g, 1, none⟩ = some (.int .i64 ma.n) := fun s' => (s'.keeps.cell (p := ⟨g, 1, none⟩) lg).trans ((UU.out.cell (p := ⟨g, 1, none⟩) GG.out).trans j1)
  have i2 : ∀ s' : Od W1, s'.val.cell? ⟨g, 2, none⟩ = some (.slice ya ma.N.length sa) := fun s' => (s'.keeps.cell (p := ⟨g, 2, none⟩) lg).trans ((UU.out.cell (p := ⟨g, 2, none⟩) GG.out).trans j2)
  have i3 : ∀ s' : Od W1, s'.val.cell? ⟨g, 3, none⟩ = some (.slice za ma.A.length ta) := fun s' => (s'.keeps.cell (p := ⟨g, 3, none⟩) lg).trans ((UU.out.cell (p := ⟨g, 3, none⟩) GG.out).trans j3)
  have i4 : ∀ s' : Od W1, s'.val.cell? ⟨g, 4, none⟩ = some (.slice xa na cA) := fun s' => (s'.keeps.cell (p := ⟨g, 4, none⟩) lg).trans ((UU.out.cell (p := ⟨g, 4, none⟩) GG.out).trans j4)
  have hNe : Nonempty (Od W1) := ⟨⟨W1, Below.refl _ _⟩⟩
  clear q0 q1 q2 q3 q4 q5 m4 j0 j1 j2 j3 j4 k0 lg
  refine wp_region_pt (.qs [0, 1, 2, 3, 4] (.one 5 (.one 6 (.one 7 .nil)))) (fun u => ∃ s' : Od W1, u = s'.val) (by kernel_rfl) (by kernel_rfl) ?_
  refine ptL_qs ⟨⟨W1.drew, (Below.refl _ _).drew⟩, rfl⟩ ?_
  change wpQuiet _ _ _ _ [_, _, _, _, _] _
  repeat (go_big_quiet_step (fail))
  refine wpQuiet_nil ?_
  have HB := (Below.refl W1.heap.size W1).drew
  refine stepL_at (by rfl) fun K Q' hK => ?_
  go_simp
  refine (CC.out _ (UU.out.trans (HB.mono UU.out.size)) (QQ.out.below HB)).mono ?_
  rintro e u1 ⟨rfl, d⟩
  replace HB := HB.trans (d.mono HB.size)
  refine hK _ _ (fun _ => ⟨⟨_, HB⟩, rfl⟩) ?_
  clear hK d
  refine stepL_at (by rfl) fun K Q' hK => ?_
  go_simp
  refine hK _ _ (fun _ => ⟨⟨_, HB⟩, rfl⟩) ?_
  clear hK
  refine stepL_at (by rfl) fun K Q' hK => ?_
  go_simp
  refine hK _ _ (fun _ => ⟨⟨_, HB⟩, rfl⟩) ?_
  clear hK
  refine ptL_nil ?_
  have B9 := hid (WW.out.trans (HB.mono WW.out.size))
  clear HB l0 l1 l2 l3 l4 l5 l6 hNe i0 i1 i2 i3 i4
  go_wp2_with fail
  go_ret
  exact ⟨rfl, B9.out⟩

-- TWO
set_option maxHeartbeats 4000000 in
set_option maxRecDepth 100000 in
theorem holds_and (q : Qy) (mm : Mt) (a b : T) {y z : Option Addr} {s t : Nat} (h9 : mm.op = 9) (ia : HoldsC q a y s z t) (ib : HoldsC q b y s z t) : HoldsC q (.two mm a b) y s z t := by
  intro v P m y1 s1 z1 t1 x n c u w hT hu hq hw hE hv
  obtain ⟨e, g, c', ca, cb, rfl, he, hme, hg, hPg, hc, hcs, ha, hb⟩ := hT
  obtain ⟨ea, xa, na, cA, rfl⟩ := ha.form
  obtain ⟨eb, xb, nb, cB, rfl⟩ := hb.form
  simp only [tcells, List.cons.injEq, and_true, Value.int.injEq, true_and, Value.slice.injEq] at he
  obtain ⟨e1, e2, ⟨rfl, e3, rfl⟩, ⟨rfl, e4, rfl⟩, rfl, rfl, rfl⟩ := he
  obtain ⟨m', y1, s1, z1, t1⟩ := e
  obtain ⟨ma, ya, sa, za, ta⟩ := ea
  obtain ⟨mb, yb, sb, zb, tb⟩ := eb
  simp only at *
  rw [e1, e2, e3, e4, h9]
  clear e1 e2 e3 e4 m hme
  obtain ⟨va, hva⟩ : ∃ va, ev q a = va := ⟨_, rfl⟩
  obtain ⟨vb, hvb⟩ : ∃ vb, ev q b = vb := ⟨_, rfl⟩
  have C := fun (wx : World) (hx : Below u.heap.size u wx) (hqx : QyIs wx q y s z t) => ia va P ma ya sa za ta xa na cA u wx ha hx hqx hw.2.1 (fun m hm => hE m (by unfold flat; exact List.mem_append_left _ (List.mem_append_left _ hm))) hva
  have D := fun (wx : World) (hx : Below u.heap.size u wx) (hqx : QyIs wx q y s z t) => ib vb P mb yb sb zb tb xb nb cB u wx hb hx hqx hw.2.2 (fun m hm => hE m (by unfold flat; exact List.mem_append_left _ (List.mem_append_right _ hm))) hvb
  have hV : (va && vb) = v := by rw [← hv, ← hva, ← hvb]; exact (if_pos h9).symm
  subst hV
  obtain ⟨B2, B1, B3⟩ := rlTwo 58 26 w #[.int .i64 9, .int .i64 m'.n, .slice y1 m'.N.length s1, .slice z1 m'.A.length t1, .slice (some ⟨g, 0, none⟩) 2 c] #[.slice y q.N.length s, .int .i64 q.ty, .int .i64 q.cl, .int .i64 q.opc, .bool q.rd, .slice z q.F.length t]
  obtain ⟨W1, hW⟩ : ∃ W1, (w.alloc (.cells #[.int .i64 9, .int .i64 m'.n, .slice y1 m'.N.length s1, .slice z1 m'.A.length t1, .slice (some ⟨g, 0, none⟩) 2 c] 58)).alloc (.cells #[.slice y q.N.length s, .int .i64 q.ty, .int .i64 q.cl, .int .i64 q.opc, .bool q.rd, .slice z q.F.length t] 26) = W1 := ⟨_, rfl⟩
  rw [hW] at B1 B2 B3
  have HW := hid hW
  have WW := hid B3
  have UU := hid (hu.trans (B3.mono hu.size))
  have QQ := hid (hq.below B3)
  have CC := hid C
  have DD := hid D
  have A1 := hid B1
  have A2 := hid B2
  have GG := hid hg
  have j0 := hcs 0 _ rfl
  have j1 := hcs 1 _ rfl
  have j2 := hcs 2 _ rfl
  have j3 := hcs 3 _ rfl
  have j4 := hcs 4 _ rfl
  have j5 := hcs 5 _ rfl
  have j6 := hcs 6 _ rfl
  have j7 := hcs 7 _ rfl
  have j8 := hcs 8 _ rfl
  have j9 := hcs 9 _ rfl
  have k0 : W1.cell? ⟨w.heap.size, 0, none⟩ = some (.int .i64 9) := (bl5 B2).1
  clear hq hE hw hv hu B1 B2 B3 hW C D hcs ha hb hva hvb ia ib h9
  go_enter Tryd.func25, Tryd.ntmps25
  go_upto_region 1 with fail
  rw [HW.out]
  clear HW
  go_upto_region 5 with fail
  obtain ⟨q0, q1, q2, q3, q4, q5⟩ := bl6 A1.out
  have m4 := (bl5 A2.out).2.2.2.2
  have l0 : ∀ s' : Od W1, s'.val.cell? ⟨w.heap.size + 1, 0, none⟩ = some (.slice y q.N.length s) := fun s' => (s'.keeps.cell (p := ⟨w.heap.size + 1, 0, none⟩) A1.out.lt).trans q0
  have l1 : ∀ s' : Od W1, s'.val.cell? ⟨w.heap.size + 1, 1, none⟩ = some (.int .i64 q.ty) := fun s' => (s'.keeps.cell (p := ⟨w.heap.size + 1, 1, none⟩) A1.out.lt).trans q1
  have l2 : ∀ s' : Od W1, s'.val.cell? ⟨w.heap.size + 1, 2, none⟩ = some (.int .i64 q.cl) := fun s' => (s'.keeps.cell (p := ⟨w.heap.size + 1, 2, none⟩) A1.out.lt).trans q2
  have l3 : ∀ s' : Od W1, s'.val.cell? ⟨w.heap.size + 1, 3, none⟩ = some (.int .i64 q.opc) := fun s' => (s'.keeps.cell (p := ⟨w.heap.size + 1, 3, none⟩) A1.out.lt).trans q3
  have l4 : ∀ s' : Od W1, s'.val.cell? ⟨w.heap.size + 1, 4, none⟩ = some (.bool q.rd) := fun s' => (s'.keeps.cell (p := ⟨w.heap.size + 1, 4, none⟩) A1.out.lt).trans q4
  have l5 : ∀ s' : Od W1, s'.val.cell? ⟨w.heap.size + 1, 5, none⟩ = some (.slice z q.F.length t) := fun s' => (s'.keeps.cell (p := ⟨w.heap.size + 1, 5, none⟩) A1.out.lt).trans q5
  have l6 : ∀ s' : Od W1, s'.val.cell? ⟨w.heap.size, 4, none⟩ = some (.slice (some ⟨g, 0, none⟩) 2 c) := fun s' => (s'.keeps.cell (p := ⟨w.heap.size, 4, none⟩) A2.out.lt).trans m4
  have lg : g < W1.heap.size := Nat.lt_of_lt_of_le GG.out UU.out.size
  have i0 : ∀ s' : Od W1, s'.val.cell? ⟨g, 0, none⟩ = some (.int .i64 ma.op) := fun s' => (s'.keeps.cell (p := ⟨g, 0, none⟩) lg).trans ((UU.out.cell (p := ⟨g, 0, none⟩) GG.out).trans j0)
  have i1 : ∀ s' : Od W1, s'.val.cell? ⟨g, 1, none⟩ = some (.int .i64 ma.n) := fun s' => (s'.keeps.cell (p := ⟨g, 1, none⟩) lg).trans ((UU.out.cell (p := ⟨g, 1, none⟩) GG.out).trans j1)
  have i2 : ∀ s' : Od W1, s'.val.cell? ⟨g, 2, none⟩ = some (.slice ya ma.N.length sa) := fun s' => (s'.keeps.cell (p := ⟨g, 2, none⟩) lg).trans ((UU.out.cell (p := ⟨g, 2, none⟩) GG.out).trans j2)
  have i3 : ∀ s' : Od W1, s'.val.cell? ⟨g, 3, none⟩ = some (.slice za ma.A.length ta) := fun s' => (s'.keeps.cell (p := ⟨g, 3, none⟩) lg).trans ((UU.out.cell (p := ⟨g, 3, none⟩) GG.out).trans j3)
  have i4 : ∀ s' : Od W1, s'.val.cell? ⟨g, 4, none⟩ = some (.slice xa na cA) := fun s' => (s'.keeps.cell (p := ⟨g, 4, none⟩) lg).trans ((UU.out.cell (p := ⟨g, 4, none⟩) GG.out).trans j4)
  have i5 : ∀ s' : Od W1, s'.val.cell? ⟨g, 5, none⟩ = some (.int .i64 mb.op) := fun s' => (s'.keeps.cell (p := ⟨g, 5, none⟩) lg).trans ((UU.out.cell (p := ⟨g, 5, none⟩) GG.out).trans j5)
  have i6 : ∀ s' : Od W1, s'.val.cell? ⟨g, 6, none⟩ = some (.int .i64 mb.n) := fun s' => (s'.keeps.cell (p := ⟨g, 6, none⟩) lg).trans ((UU.out.cell (p := ⟨g, 6, none⟩) GG.out).trans j6)
  have i7 : ∀ s' : Od W1, s'.val.cell? ⟨g, 7, none⟩ = some (.slice yb mb.N.length sb) := fun s' => (s'.keeps.cell (p := ⟨g, 7, none⟩) lg).trans ((UU.out.cell (p := ⟨g, 7, none⟩) GG.out).trans j7)
  have i8 : ∀ s' : Od W1, s'.val.cell? ⟨g, 8, none⟩ = some (.slice zb mb.A.length tb) := fun s' => (s'.keeps.cell (p := ⟨g, 8, none⟩) lg).trans ((UU.out.cell (p := ⟨g, 8, none⟩) GG.out).trans j8)
  have i9 : ∀ s' : Od W1, s'.val.cell? ⟨g, 9, none⟩ = some (.slice xb nb cB) := fun s' => (s'.keeps.cell (p := ⟨g, 9, none⟩) lg).trans ((UU.out.cell (p := ⟨g, 9, none⟩) GG.out).trans j9)
  have hNe : Nonempty (Od W1) := ⟨⟨W1, Below.refl _ _⟩⟩
  clear q0 q1 q2 q3 q4 q5 m4 j0 j1 j2 j3 j4 j5 j6 j7 j8 j9 k0 lg
  refine wp_region_ut (.qs [0, 1, 2, 3, 4] (.one 5 (.one 6 (.qs [7, 8, 9, 10, 11] (.one 12 (.one 13 (.one 14 .nil))))))) (fun u => ∃ s' : Od W1, u = s'.val) (by kernel_rfl) (by kernel_rfl) ?_
  refine utL_qs ⟨⟨W1.drew, (Below.refl _ _).drew⟩, rfl⟩ ?_
  change wpQuiet _ _ _ _ [_, _, _, _, _] _
  repeat (go_big_quiet_step (fail))
  refine wpQuiet_nil ?_
  have HB := (Below.refl W1.heap.size W1).drew
  refine stepU_at (by rfl) fun K Q' hK => ?_
  go_simp
  refine (CC.out _ (UU.out.trans (HB.mono UU.out.size)) (QQ.out.below HB)).mono ?_
  rintro e u1 ⟨rfl, d⟩
  replace HB := HB.trans (d.mono HB.size)
  refine hK _ _ (fun _ => ⟨⟨_, HB⟩, rfl⟩) ?_
  clear hK d
  refine stepU_at (by rfl) fun K Q' hK => ?_
  go_simp
  refine hK _ _ (fun _ => ⟨⟨_, HB⟩, rfl⟩) ?_
  clear hK
  cases va
  · refine utL_qs ⟨⟨_, HB⟩, rfl⟩ ?_
    change wpQuiet _ _ _ _ [_, _, _, _, _] _
    repeat (go_big_quiet_step (fail))
    refine wpQuiet_nil ?_
    refine stepU_off (by rfl) ⟨⟨_, HB⟩, rfl⟩ ?_
    refine stepU_at (by rfl) fun K Q' hK => ?_
    go_simp
    refine hK _ _ (fun _ => ⟨⟨_, HB⟩, rfl⟩) ?_
    clear hK
    refine stepU_at (by rfl) fun K Q' hK => ?_
    go_simp
    refine hK _ _ (fun _ => ⟨⟨_, HB⟩, rfl⟩) ?_
    clear hK
    refine utL_nil ?_
    have B9 := hid (WW.out.trans (HB.mono WW.out.size))
    clear HB l0 l1 l2 l3 l4 l5 l6 hNe i0 i1 i2 i3 i4 i5 i6 i7 i8 i9
    go_wp2_with fail
    go_ret
    exact ⟨rfl, B9.out⟩
  · refine utL_qs ⟨⟨_, HB⟩, rfl⟩ ?_
    change wpQuiet _ _ _ _ [_, _, _, _, _] _
    repeat (go_big_quiet_step (fail))
    refine wpQuiet_nil ?_
    refine stepU_at (by rfl) fun K Q' hK => ?_
    go_simp
    refine (DD.out _ (UU.out.trans (HB.mono UU.out.size)) (QQ.out.below HB)).mono ?_
    rintro e u2 ⟨rfl, d⟩
    replace HB := HB.trans (d.mono HB.size)
    refine hK _ _ (fun _ => ⟨⟨_, HB⟩, rfl⟩) ?_
    clear hK d
    refine stepU_at (by rfl) fun K Q' hK => ?_
    go_simp
    refine hK _ _ (fun _ => ⟨⟨_, HB⟩, rfl⟩) ?_
    clear hK
    refine stepU_at (by rfl) fun K Q' hK => ?_
    go_simp
    refine hK _ _ (fun _ => ⟨⟨_, HB⟩, rfl⟩) ?_
    clear hK
    refine utL_nil ?_
    have B9 := hid (WW.out.trans (HB.mono WW.out.size))
    clear HB l0 l1 l2 l3 l4 l5 l6 hNe i0 i1 i2 i3 i4 i5 i6 i7 i8 i9
    go_wp2_with fail
    go_ret
    exact ⟨rfl, B9.out⟩

set_option maxHeartbeats 4000000 in
set_option maxRecDepth 100000 in
theorem holds_or (q : Qy) (mm : Mt) (a b : T) {y z : Option Addr} {s t : Nat} (h9 : mm.op = 10) (ia : HoldsC q a y s z t) (ib : HoldsC q b y s z t) : HoldsC q (.two mm a b) y s z t := by
  intro v P m y1 s1 z1 t1 x n c u w hT hu hq hw hE hv
  obtain ⟨e, g, c', ca, cb, rfl, he, hme, hg, hPg, hc, hcs, ha, hb⟩ := hT
  obtain ⟨ea, xa, na, cA, rfl⟩ := ha.form
  obtain ⟨eb, xb, nb, cB, rfl⟩ := hb.form
  simp only [tcells, List.cons.injEq, and_true, Value.int.injEq, true_and, Value.slice.injEq] at he
  obtain ⟨e1, e2, ⟨rfl, e3, rfl⟩, ⟨rfl, e4, rfl⟩, rfl, rfl, rfl⟩ := he
  obtain ⟨m', y1, s1, z1, t1⟩ := e
  obtain ⟨ma, ya, sa, za, ta⟩ := ea
  obtain ⟨mb, yb, sb, zb, tb⟩ := eb
  simp only at *
  rw [e1, e2, e3, e4, h9]
  clear e1 e2 e3 e4 m hme
  obtain ⟨va, hva⟩ : ∃ va, ev q a = va := ⟨_, rfl⟩
  obtain ⟨vb, hvb⟩ : ∃ vb, ev q b = vb := ⟨_, rfl⟩
  have C := fun (wx : World) (hx : Below u.heap.size u wx) (hqx : QyIs wx q y s z t) => ia va P ma ya sa za ta xa na cA u wx ha hx hqx hw.2.1 (fun m hm => hE m (by unfold flat; exact List.mem_append_left _ (List.mem_append_left _ hm))) hva
  have D := fun (wx : World) (hx : Below u.heap.size u wx) (hqx : QyIs wx q y s z t) => ib vb P mb yb sb zb tb xb nb cB u wx hb hx hqx hw.2.2 (fun m hm => hE m (by unfold flat; exact List.mem_append_left _ (List.mem_append_right _ hm))) hvb
  have hV : (va || vb) = v := by rw [← hv, ← hva, ← hvb]; exact (if_neg (by rw [h9]; decide)).symm
  subst hV
  obtain ⟨B2, B1, B3⟩ := rlTwo 58 26 w #[.int .i64 10, .int .i64 m'.n, .slice y1 m'.N.length s1, .slice z1 m'.A.length t1, .slice (some ⟨g, 0, none⟩) 2 c] #[.slice y q.N.length s, .int .i64 q.ty, .int .i64 q.cl, .int .i64 q.opc, .bool q.rd, .slice z q.F.length t]
  obtain ⟨W1, hW⟩ : ∃ W1, (w.alloc (.cells #[.int .i64 10, .int .i64 m'.n, .slice y1 m'.N.length s1, .slice z1 m'.A.length t1, .slice (some ⟨g, 0, none⟩) 2 c] 58)).alloc (.cells #[.slice y q.N.length s, .int .i64 q.ty, .int .i64 q.cl, .int .i64 q.opc, .bool q.rd, .slice z q.F.length t] 26) = W1 := ⟨_, rfl⟩
  rw [hW] at B1 B2 B3
  have HW := hid hW
  have WW := hid B3
  have UU := hid (hu.trans (B3.mono hu.size))
  have QQ := hid (hq.below B3)
  have CC := hid C
  have DD := hid D
  have A1 := hid B1
  have A2 := hid B2
  have GG := hid hg
  have j0 := hcs 0 _ rfl
  have j1 := hcs 1 _ rfl
  have j2 := hcs 2 _ rfl
  have j3 := hcs 3 _ rfl
  have j4 := hcs 4 _ rfl
  have j5 := hcs 5 _ rfl
  have j6 := hcs 6 _ rfl
  have j7 := hcs 7 _ rfl
  have j8 := hcs 8 _ rfl
  have j9 := hcs 9 _ rfl
  have k0 : W1.cell? ⟨w.heap.size, 0, none⟩ = some (.int .i64 10) := (bl5 B2).1
  clear hq hE hw hv hu B1 B2 B3 hW C D hcs ha hb hva hvb ia ib h9
  go_enter Tryd.func25, Tryd.ntmps25
  go_upto_region 1 with fail
  rw [HW.out]
  clear HW
  go_upto_region 7 with fail
  obtain ⟨q0, q1, q2, q3, q4, q5⟩ := bl6 A1.out
  have m4 := (bl5 A2.out).2.2.2.2
  have l0 : ∀ s' : Od W1, s'.val.cell? ⟨w.heap.size + 1, 0, none⟩ = some (.slice y q.N.length s) := fun s' => (s'.keeps.cell (p := ⟨w.heap.size + 1, 0, none⟩) A1.out.lt).trans q0
  have l1 : ∀ s' : Od W1, s'.val.cell? ⟨w.heap.size + 1, 1, none⟩ = some (.int .i64 q.ty) := fun s' => (s'.keeps.cell (p := ⟨w.heap.size + 1, 1, none⟩) A1.out.lt).trans q1
  have l2 : ∀ s' : Od W1, s'.val.cell? ⟨w.heap.size + 1, 2, none⟩ = some (.int .i64 q.cl) := fun s' => (s'.keeps.cell (p := ⟨w.heap.size + 1, 2, none⟩) A1.out.lt).trans q2
  have l3 : ∀ s' : Od W1, s'.val.cell? ⟨w.heap.size + 1, 3, none⟩ = some (.int .i64 q.opc) := fun s' => (s'.keeps.cell (p := ⟨w.heap.size + 1, 3, none⟩) A1.out.lt).trans q3
  have l4 : ∀ s' : Od W1, s'.val.cell? ⟨w.heap.size + 1, 4, none⟩ = some (.bool q.rd) := fun s' => (s'.keeps.cell (p := ⟨w.heap.size + 1, 4, none⟩) A1.out.lt).trans q4
  have l5 : ∀ s' : Od W1, s'.val.cell? ⟨w.heap.size + 1, 5, none⟩ = some (.slice z q.F.length t) := fun s' => (s'.keeps.cell (p := ⟨w.heap.size + 1, 5, none⟩) A1.out.lt).trans q5
  have l6 : ∀ s' : Od W1, s'.val.cell? ⟨w.heap.size, 4, none⟩ = some (.slice (some ⟨g, 0, none⟩) 2 c) := fun s' => (s'.keeps.cell (p := ⟨w.heap.size, 4, none⟩) A2.out.lt).trans m4
  have lg : g < W1.heap.size := Nat.lt_of_lt_of_le GG.out UU.out.size
  have i0 : ∀ s' : Od W1, s'.val.cell? ⟨g, 0, none⟩ = some (.int .i64 ma.op) := fun s' => (s'.keeps.cell (p := ⟨g, 0, none⟩) lg).trans ((UU.out.cell (p := ⟨g, 0, none⟩) GG.out).trans j0)
  have i1 : ∀ s' : Od W1, s'.val.cell? ⟨g, 1, none⟩ = some (.int .i64 ma.n) := fun s' => (s'.keeps.cell (p := ⟨g, 1, none⟩) lg).trans ((UU.out.cell (p := ⟨g, 1, none⟩) GG.out).trans j1)
  have i2 : ∀ s' : Od W1, s'.val.cell? ⟨g, 2, none⟩ = some (.slice ya ma.N.length sa) := fun s' => (s'.keeps.cell (p := ⟨g, 2, none⟩) lg).trans ((UU.out.cell (p := ⟨g, 2, none⟩) GG.out).trans j2)
  have i3 : ∀ s' : Od W1, s'.val.cell? ⟨g, 3, none⟩ = some (.slice za ma.A.length ta) := fun s' => (s'.keeps.cell (p := ⟨g, 3, none⟩) lg).trans ((UU.out.cell (p := ⟨g, 3, none⟩) GG.out).trans j3)
  have i4 : ∀ s' : Od W1, s'.val.cell? ⟨g, 4, none⟩ = some (.slice xa na cA) := fun s' => (s'.keeps.cell (p := ⟨g, 4, none⟩) lg).trans ((UU.out.cell (p := ⟨g, 4, none⟩) GG.out).trans j4)
  have i5 : ∀ s' : Od W1, s'.val.cell? ⟨g, 5, none⟩ = some (.int .i64 mb.op) := fun s' => (s'.keeps.cell (p := ⟨g, 5, none⟩) lg).trans ((UU.out.cell (p := ⟨g, 5, none⟩) GG.out).trans j5)
  have i6 : ∀ s' : Od W1, s'.val.cell? ⟨g, 6, none⟩ = some (.int .i64 mb.n) := fun s' => (s'.keeps.cell (p := ⟨g, 6, none⟩) lg).trans ((UU.out.cell (p := ⟨g, 6, none⟩) GG.out).trans j6)
  have i7 : ∀ s' : Od W1, s'.val.cell? ⟨g, 7, none⟩ = some (.slice yb mb.N.length sb) := fun s' => (s'.keeps.cell (p := ⟨g, 7, none⟩) lg).trans ((UU.out.cell (p := ⟨g, 7, none⟩) GG.out).trans j7)
  have i8 : ∀ s' : Od W1, s'.val.cell? ⟨g, 8, none⟩ = some (.slice zb mb.A.length tb) := fun s' => (s'.keeps.cell (p := ⟨g, 8, none⟩) lg).trans ((UU.out.cell (p := ⟨g, 8, none⟩) GG.out).trans j8)
  have i9 : ∀ s' : Od W1, s'.val.cell? ⟨g, 9, none⟩ = some (.slice xb nb cB) := fun s' => (s'.keeps.cell (p := ⟨g, 9, none⟩) lg).trans ((UU.out.cell (p := ⟨g, 9, none⟩) GG.out).trans j9)
  have hNe : Nonempty (Od W1) := ⟨⟨W1, Below.refl _ _⟩⟩
  clear q0 q1 q2 q3 q4 q5 m4 j0 j1 j2 j3 j4 j5 j6 j7 j8 j9 k0 lg
  refine wp_region_ut (.qs [0, 1, 2, 3, 4] (.one 5 (.one 6 (.qs [7, 8, 9, 10, 11] (.one 12 (.one 13 (.one 14 .nil))))))) (fun u => ∃ s' : Od W1, u = s'.val) (by kernel_rfl) (by kernel_rfl) ?_
  refine utL_qs ⟨⟨W1.drew, (Below.refl _ _).drew⟩, rfl⟩ ?_
  change wpQuiet _ _ _ _ [_, _, _, _, _] _
  repeat (go_big_quiet_step (fail))
  refine wpQuiet_nil ?_
  have HB := (Below.refl W1.heap.size W1).drew
  refine stepU_at (by rfl) fun K Q' hK => ?_
  go_simp
  refine (CC.out _ (UU.out.trans (HB.mono UU.out.size)) (QQ.out.below HB)).mono ?_
  rintro e u1 ⟨rfl, d⟩
  replace HB := HB.trans (d.mono HB.size)
  refine hK _ _ (fun _ => ⟨⟨_, HB⟩, rfl⟩) ?_
  clear hK d
  refine stepU_at (by rfl) fun K Q' hK => ?_
  go_simp
  refine hK _ _ (fun _ => ⟨⟨_, HB⟩, rfl⟩) ?_
  clear hK
  cases va
  · refine utL_qs ⟨⟨_, HB⟩, rfl⟩ ?_
    change wpQuiet _ _ _ _ [_, _, _, _, _] _
    repeat (go_big_quiet_step (fail))
    refine wpQuiet_nil ?_
    refine stepU_at (by rfl) fun K Q' hK => ?_
    go_simp
    refine (DD.out _ (UU.out.trans (HB.mono UU.out.size)) (QQ.out.below HB)).mono ?_
    rintro e u2 ⟨rfl, d⟩
    replace HB := HB.trans (d.mono HB.size)
    refine hK _ _ (fun _ => ⟨⟨_, HB⟩, rfl⟩) ?_
    clear hK d
    refine stepU_at (by rfl) fun K Q' hK => ?_
    go_simp
    refine hK _ _ (fun _ => ⟨⟨_, HB⟩, rfl⟩) ?_
    clear hK
    refine stepU_at (by rfl) fun K Q' hK => ?_
    go_simp
    refine hK _ _ (fun _ => ⟨⟨_, HB⟩, rfl⟩) ?_
    clear hK
    refine utL_nil ?_
    have B9 := hid (WW.out.trans (HB.mono WW.out.size))
    clear HB l0 l1 l2 l3 l4 l5 l6 hNe i0 i1 i2 i3 i4 i5 i6 i7 i8 i9
    go_wp2_with fail
    go_ret
    exact ⟨rfl, B9.out⟩
  · refine utL_qs ⟨⟨_, HB⟩, rfl⟩ ?_
    change wpQuiet _ _ _ _ [_, _, _, _, _] _
    repeat (go_big_quiet_step (fail))
    refine wpQuiet_nil ?_
    refine stepU_off (by rfl) ⟨⟨_, HB⟩, rfl⟩ ?_
    refine stepU_at (by rfl) fun K Q' hK => ?_
    go_simp
    refine hK _ _ (fun _ => ⟨⟨_, HB⟩, rfl⟩) ?_
    clear hK
    refine stepU_at (by rfl) fun K Q' hK => ?_
    go_simp
    refine hK _ _ (fun _ => ⟨⟨_, HB⟩, rfl⟩) ?_
    clear hK
    refine utL_nil ?_
    have B9 := hid (WW.out.trans (HB.mono WW.out.size))
    clear HB l0 l1 l2 l3 l4 l5 l6 hNe i0 i1 i2 i3 i4 i5 i6 i7 i8 i9
    go_wp2_with fail
    go_ret
    exact ⟨rfl, B9.out⟩

/-- What a tree of right nodes holds of. -/
theorem holds_any (q : Qy) {y z : Option Addr} {s t : Nat} (tr : T) : wf tr → HoldsC q tr y s z t := by
  induction tr with
  | leaf m => exact fun _ => holds_leaf q m
  | one m a ih => exact fun h => holds_one q m a (ih h.2)
  | two m a b ia ib =>
    intro h
    rcases takes_two h.1 with q9 | q9
    · exact holds_and q m a b q9 (ia h.2.1) (ib h.2.2)
    · exact holds_or q m a b q9 (ia h.2.1) (ib h.2.2)

end Go.Proofs.YtnbabdfcamdapaaDoor.Ru

namespace Go.Proofs.YtnbabdfcamdapaaDoor.Ru
open Go.RowKit Go.Deep

set_option maxHeartbeats 4000000 in
set_option maxRecDepth 100000 in
theorem rcheck_any {x : Option Addr} {c l : Nat} (r : List Mt) (v : Value) (w : World) (_h : Mats w x c r) (_hl : r.length = l) (_hv : errV (ruleE r) = v) :
    Calls Tryd.prog 12 #[.slice x l c] w fun e w' => e = .returned v ∧ Below w.heap.size w w' := by
  have RD := hid (read_any r w _h _hl)
  have HV := hid _hv
  clear _h _hl _hv
  go_enter Tryd.func12, Tryd.ntmps12
  go_wp2_with fail
  refine RD.out.mono ?_
  rintro e w2 ⟨b2, ⟨hE, tr, cs, _, _, hT, rfl⟩ | ⟨hE, rfl⟩⟩
  · obtain ⟨⟨m, y1, s1, z1, t1⟩, x5, n5, c5, rfl⟩ := hT.form
    rw [tcells_arr]
    have BB := hid (grown_on b2 (boxed 58 w2 #[.int .i64 m.op, .int .i64 m.n, .slice y1 m.N.length s1, .slice z1 m.A.length t1, .slice x5 n5 c5]))
    have EV : Hid (Value.nilIface = v) := hid (by rw [← HV.out, hE]; rfl)
    clear b2 hE HV RD hT
    go_wp2_with fail
    go_ret
    exact ⟨by rw [EV.out]; rfl, BB.out⟩
  · have BB := hid (grown_on b2 (boxed 58 w2 #[.int .i64 0, .int .i64 0, .slice none 0 0, .slice none 0 0, .slice none 0 0]))
    have EV := hid ((errV_some hE).symm.trans HV.out)
    clear b2 hE HV RD
    go_wp2_with fail
    go_ret
    exact ⟨by rw [EV.out]; rfl, BB.out⟩

set_option maxHeartbeats 4000000 in
set_option maxRecDepth 100000 in
theorem rholds_good {x y z : Option Addr} {c l s t : Nat} (r : List Mt) (tr : T) (q : Qy) (i : Bool) (w : World) (_h : Mats w x c r) (_hl : r.length = l) (_hq : QyIs w q y s z t) (_hE : ruleE r = 0) (_hf : flat tr = r) (_hw : wf tr) (_hi : ev q tr = i) :
    Calls Tryd.prog 17 #[.slice x l c, .agg #[.slice y q.N.length s, .int .i64 q.ty, .int .i64 q.cl, .int .i64 q.opc, .bool q.rd, .slice z q.F.length t]] w fun e w' => e = .returned (.tuple #[.bool i, .nilIface]) ∧ Below w.heap.size w w' := by
  have b1 := boxed 26 w #[.slice y q.N.length s, .int .i64 q.ty, .int .i64 q.cl, .int .i64 q.opc, .bool q.rd, .slice z q.F.length t]
  have B1 := Bl.new 26 w #[.slice y q.N.length s, .int .i64 q.ty, .int .i64 q.cl, .int .i64 q.opc, .bool q.rd, .slice z q.F.length t]
  obtain ⟨W1, hW⟩ : ∃ W1, w.alloc (.cells #[.slice y q.N.length s, .int .i64 q.ty, .int .i64 q.cl, .int .i64 q.opc, .bool q.rd, .slice z q.F.length t] 26) = W1 := ⟨_, rfl⟩
  rw [hW] at b1 B1
  have HW := hid hW
  have RD := hid (read_any r W1 (_h.below b1) _hl)
  have QQ := hid (_hq.below b1)
  have BB := hid b1
  have KK := hid B1
  have HE := hid _hE
  have HF := hid _hf
  have HWf := hid _hw
  have HI := hid _hi
  clear _h _hl _hq _hE _hf _hw _hi b1 B1 hW
  go_enter Tryd.func17, Tryd.ntmps17
  go_upto_region 1 with fail
  rw [HW.out]
  clear HW
  go_wp2_with fail
  refine RD.out.mono ?_
  rintro e w2 ⟨b2, ⟨_, tr', cs, hfl, hwf, hT, rfl⟩ | ⟨hE, rfl⟩⟩
  rotate_left
  · exact absurd HE.out hE
  obtain rfl := flat_inj hwf HWf.out (hfl.trans HF.out.symm)
  obtain ⟨⟨m, y1, s1, z1, t1⟩, x5, n5, c5, rfl⟩ := hT.form
  rw [tcells_arr]
  have hT2 := hT.later b2
  have b3 := boxed 58 w2 #[.int .i64 m.op, .int .i64 m.n, .slice y1 m.N.length s1, .slice z1 m.A.length t1, .slice x5 n5 c5]
  have B3 := Bl.new 58 w2 #[.int .i64 m.op, .int .i64 m.n, .slice y1 m.N.length s1, .slice z1 m.A.length t1, .slice x5 n5 c5]
  obtain ⟨W3, hW⟩ : ∃ W3, w2.alloc (.cells #[.int .i64 m.op, .int .i64 m.n, .slice y1 m.N.length s1, .slice z1 m.A.length t1, .slice x5 n5 c5] 58) = W3 := ⟨_, rfl⟩
  rw [hW] at b3 B3
  have HW := hid hW
  have CH := hid (holds_any q tr' hwf i _ m y1 s1 z1 t1 x5 n5 c5 w2 W3 hT2 b3 ((QQ.out.below b2).below b3) hwf (by rw [hfl]; exact ruleE_node HE.out) HI.out)
  obtain ⟨q0, q1, q2, q3, q4, q5⟩ := bl6 ((KK.out.below b2).below b3)
  obtain ⟨m0, m1, m2, m3, m4⟩ := bl5 B3
  have B9 := hid (grown_on (grown_on BB.out b2) b3)
  clear b2 b3 B3 hW hT hT2 hwf hfl HF HWf HI HE QQ KK BB RD
  go_upto_region 2 with fail
  rw [HW.out]
  clear HW
  go_wp2_with fail
  refine CH.out.mono ?_
  rintro e w4 ⟨rfl, b4⟩
  have B10 := hid (grown_on B9.out b4)
  clear b4 CH
  go_wp2_with fail
  refine bodyPost_ret (results_tmp2 rfl _ _ _) rfl ?_
  exact ⟨rfl, B10.out⟩

set_option maxHeartbeats 4000000 in
set_option maxRecDepth 100000 in
theorem rholds_bad {x y z : Option Addr} {c l s t : Nat} (r : List Mt) (q : Qy) (v : Value) (w : World) (_h : Mats w x c r) (_hl : r.length = l) (_hq : QyIs w q y s z t) (_hE : ¬ ruleE r = 0) (_hv : errV (ruleE r) = v) :
    Calls Tryd.prog 17 #[.slice x l c, .agg #[.slice y q.N.length s, .int .i64 q.ty, .int .i64 q.cl, .int .i64 q.opc, .bool q.rd, .slice z q.F.length t]] w fun e w' => e = .returned (.tuple #[.bool false, v]) ∧ Below w.heap.size w w' := by
  have b1 := boxed 26 w #[.slice y q.N.length s, .int .i64 q.ty, .int .i64 q.cl, .int .i64 q.opc, .bool q.rd, .slice z q.F.length t]
  obtain ⟨W1, hW⟩ : ∃ W1, w.alloc (.cells #[.slice y q.N.length s, .int .i64 q.ty, .int .i64 q.cl, .int .i64 q.opc, .bool q.rd, .slice z q.F.length t] 26) = W1 := ⟨_, rfl⟩
  rw [hW] at b1
  have HW := hid hW
  have RD := hid (read_any r W1 (_h.below b1) _hl)
  have BB := hid b1
  have HE := hid _hE
  have EV := hid ((errV_some _hE).symm.trans _hv)
  clear _h _hl _hq _hE _hv b1 hW
  go_enter Tryd.func17, Tryd.ntmps17
  go_upto_region 1 with fail
  rw [HW.out]
  clear HW
  go_wp2_with fail
  refine RD.out.mono ?_
  rintro e w2 ⟨b2, ⟨hE, _⟩ | ⟨_, rfl⟩⟩
  · exact absurd hE HE.out
  have b3 := boxed 58 w2 #[.int .i64 0, .int .i64 0, .slice none 0 0, .slice none 0 0, .slice none 0 0]
  have B9 := hid (grown_on (grown_on BB.out b2) b3)
  clear b2 b3 BB RD HE
  go_wp2_with fail
  refine bodyPost_ret (results_tmp2 rfl _ _ _) rfl ?_
  exact ⟨by rw [EV.out]; rfl, B9.out⟩

end Go.Proofs.YtnbabdfcamdapaaDoor.Ru

namespace Go.Proofs.YtnbabdfcamdapaaDoor.Ru
open Go.RowKit Go.Deep

/-- Whether a rule holds, where it is right. -/
theorem rholds_row {x y z : Option Addr} {c l s t : Nat} (ms : List Mt) (q : Qy) (v : Bool) (w : World) (h : Mats w x c ms) (hl : ms.length = l) (hq : QyIs w q y s z t) (hE : ruleE ms = 0) (hv : holdN q ms = v) :
    Calls Tryd.prog 17 #[.slice x l c, .agg #[.slice y q.N.length s, .int .i64 q.ty, .int .i64 q.cl, .int .i64 q.opc, .bool q.rd, .slice z q.F.length t]] w fun e w' => e = .returned (.tuple #[.bool v, .nilIface]) ∧ Below w.heap.size w w' := by
  obtain ⟨tr, hf, hw⟩ := ruleE_tree hE
  exact rholds_good ms tr q v w h hl hq hE hf hw (by rw [← holdN_of hw, hf]; exact hv)

theorem two_cells {w0 w : World} {b : Nat} (h : Below w0.heap.size w0 w) (hb : w0.heap.size ≤ b) (v0 v1 : Value) : Below w0.heap.size w0 ((w.setCell ⟨b, 0, none⟩ v0).setCell ⟨b, 1, none⟩ v1) := (h.setCell hb v0).setCell hb v1

set_option maxHeartbeats 2000000 in
set_option maxRecDepth 100000 in
theorem ccheck_any {x : Option Addr} {c l : Nat} (a k : Int) (v : Value) (rs : List Ra) (w : World) (h : Ras w x c rs) (hl : rs.length = l) (hk : chainE rs = (a, k)) (hv : errV k = v) :
    Calls Tryd.prog 6 #[.slice x l c] w fun e w' => e = .returned (.tuple #[.int .i64 a, v]) ∧ Below w.heap.size w w' := by
  subst hl
  have hlen : rs.length ≤ 5000000000000 := h.2.1
  have HH := hid h
  have HK := hid hk
  have HV := hid hv
  clear h hk hv
  by_cases c1 : 50 < rs.length
  · have HE : Hid (((0 : Int), (7 : Int)) = (a, k)) := hid (by rw [← HK.out]; unfold chainE; rw [if_pos c1])
    have c1' : (50 : Int) < (rs.length : Int) := by omega
    go_enter Tryd.func6, Tryd.ntmps6
    go_wp2_with fail
    refine bodyPost_ret (results_tmp2 rfl _ _ _) rfl ?_
    have := HE.out
    simp only [Prod.mk.injEq] at this
    obtain ⟨rfl, rfl⟩ := this
    exact ⟨by rw [← HV.out]; rfl, Below.refl _ _⟩
  have c1' : ¬ (50 : Int) < (rs.length : Int) := by omega
  have HE : Hid (Ch.wrong (faults rs) = (a, k)) := hid (by rw [← HK.out]; unfold chainE; rw [if_neg c1])
  clear HK
  go_enter Tryd.func6, Tryd.ntmps6
  go_wp2_with fail
  go_loopw [13] (fun vi wr => ∃ i : Nat, i ≤ rs.length ∧ vi = .int .i64 (i : Int) ∧ (∀ j, j < i → (faults rs)[j]? = some 0) ∧ Below w.heap.size w wr) (fun vi _ => rs.length - (intOf vi).toNat)
  case atStart => exact ⟨0, Nat.zero_le _, rfl, fun j hj => by omega, Below.refl _ _⟩
  case round =>
    obtain ⟨i, hi, rfl, hf, hb⟩ := hrel
    have FF := hid hf
    have BB := hid hb
    clear hf hb
    by_cases ci : i < rs.length
    · have ci' : (i : Int) < (rs.length : Int) := by omega
      obtain ⟨b, off, rfl, hbl, y, s, k0, k1, hM⟩ := (HH.out.below BB.out).here ci
      obtain ⟨e, he⟩ : ∃ e, ruleE rs[i].ms = e := ⟨_, rfl⟩
      have GE : Hid ((faults rs)[i]? = some e) := hid (by unfold faults; rw [List.getElem?_map, List.getElem?_eq_getElem ci]; simp only [Option.map_some, he])
      generalize rs[i].ms = ms at *
      generalize rs[i].act = act at *
      have b1 := boxed 39 wr #[.slice y ms.length s, .int .i64 act]
      have B1 := Bl.new 39 wr #[.slice y ms.length s, .int .i64 act]
      obtain ⟨W1, hW⟩ : ∃ W1, wr.alloc (.cells #[.slice y ms.length s, .int .i64 act] 39) = W1 := ⟨_, rfl⟩
      rw [hW] at b1 B1
      have HW := hid hW
      have C0 : W1.cell? ⟨wr.heap.size, 0, none⟩ = some (.slice y ms.length s) := B1.cell (i := 0) rfl
      have B2 := hid (grown_on BB.out b1)
      have HM := hM.below b1
      clear hW b1 B1 hM
      by_cases h0 : e = 0
      · subst h0
        have C2 := hid (rcheck_any ms .nilIface W1 HM rfl (by rw [he]; rfl))
        clear HM he
        go_upto_region 6 with fail
        rw [HW.out]
        clear HW k0 k1
        go_wp2_with fail
        refine C2.out.mono ?_
        rintro e w1 ⟨rfl, q⟩
        have B3 := hid (grown_on B2.out q)
        clear q C0 C2
        go_wp2_with fail
        refine ⟨⟨i + 1, by omega, by go_num, fun j hj => ?_, B3.out⟩, by simp [intOf]; omega⟩
        by_cases hj' : j = i
        · subst hj'; exact GE.out
        · exact FF.out j (by omega)
      · have F5 : Hid (((i : Int), e) = (a, k)) := hid (by rw [← HE.out, Ch.wrong_get FF.out GE.out h0])
        have C2 := hid (rcheck_any ms (.iface 28 (.int .i64 e)) W1 HM rfl (by rw [he]; exact errV_some h0))
        have EV := hid (errV_some h0)
        clear HM he h0
        go_upto_region 6 with fail
        rw [HW.out]
        clear HW k0 k1
        go_wp2_with fail
        refine C2.out.mono ?_
        rintro e w1 ⟨rfl, q⟩
        have B3 := hid (grown_on B2.out q)
        clear q C0 C2
        go_wp2_with fail
        refine bodyPost_ret (results_tmp2 rfl _ _ _) rfl ?_
        have := F5.out
        simp only [Prod.mk.injEq] at this
        obtain ⟨rfl, rfl⟩ := this
        exact ⟨by rw [← HV.out, EV.out]; rfl, B3.out⟩
    · have ci' : ¬ (i : Int) < (rs.length : Int) := by omega
      have F5 : Hid (((0 : Int), (0 : Int)) = (a, k)) := hid (by
        rw [← HE.out, Ch.wrong_zero]
        refine (Ch.wrong_none _).2 fun e he => ?_
        obtain ⟨j, hj⟩ := List.mem_iff_getElem?.1 he
        have hjl : j < (faults rs).length := (List.getElem?_eq_some_iff.1 hj).1
        have hjl' : j < rs.length := by unfold faults at hjl; rwa [List.length_map] at hjl
        have := FF.out j (by omega)
        rw [this] at hj
        exact (Option.some.inj hj).symm)
      go_wp2_with fail
      refine bodyPost_ret (results_tmp2 rfl _ _ _) rfl ?_
      have := F5.out
      simp only [Prod.mk.injEq] at this
      obtain ⟨rfl, rfl⟩ := this
      exact ⟨by rw [← HV.out]; rfl, BB.out⟩

/-- The closure that First hands on: whether a rule holds of the query that it captured. -/
theorem clo_any {x y z : Option Addr} {c s t b : Nat} (ms : List Mt) (act : Int) (q : Qy) (v : Bool) (w : World) (h : Mats w x c ms) (hq : QyIs w q y s z t) (hE : ruleE ms = 0) (hv : holdN q ms = v)
    (hb : Bl 26 w b #[.slice y q.N.length s, .int .i64 q.ty, .int .i64 q.cl, .int .i64 q.opc, .bool q.rd, .slice z q.F.length t]) :
    Calls Tryd.prog 16 #[.agg #[.slice x ms.length c, .int .i64 act], .pointer (some ⟨b, 0, none⟩)] w fun e w' => e = .returned (.bool v) ∧ Below w.heap.size w w' := by
  have b1 := boxed 39 w #[.slice x ms.length c, .int .i64 act]
  have B1 := Bl.new 39 w #[.slice x ms.length c, .int .i64 act]
  obtain ⟨W1, hW⟩ : ∃ W1, w.alloc (.cells #[.slice x ms.length c, .int .i64 act] 39) = W1 := ⟨_, rfl⟩
  rw [hW] at b1 B1
  have HW := hid hW
  have C0 : W1.cell? ⟨w.heap.size, 0, none⟩ = some (.slice x ms.length c) := B1.cell (i := 0) rfl
  have C2 := hid (rholds_row ms q v W1 (h.below b1) rfl (hq.below b1) hE hv)
  obtain ⟨q0, q1, q2, q3, q4, q5⟩ := bl6 (hb.below b1)
  have BB := hid b1
  clear h hq hE hv hb b1 B1 hW
  go_enter Tryd.func16, Tryd.ntmps16
  go_upto_region 1 with fail
  rw [HW.out]
  clear HW
  go_wp2_with fail
  refine C2.out.mono ?_
  rintro e w1 ⟨rfl, k⟩
  have B3 := hid (grown_on BB.out k)
  clear k C2
  go_wp2_with fail
  go_ret
  exact ⟨rfl, B3.out⟩

set_option maxHeartbeats 2000000 in
set_option maxRecDepth 100000 in
theorem cidx_any {x y z : Option Addr} {c l s t b : Nat} (v : Int) (rs : List Ra) (q : Qy) (w : World) (h : Ras w x c rs) (hl : rs.length = l) (hq : QyIs w q y s z t) (hE : ∀ r ∈ rs, ruleE r.ms = 0) (hv : Ch.first (holds q rs) = v)
    (hb : Bl 26 w b #[.slice y q.N.length s, .int .i64 q.ty, .int .i64 q.cl, .int .i64 q.opc, .bool q.rd, .slice z q.F.length t]) :
    Calls Tryd.prog 15 #[.slice x l c, .func (.func 16) #[] #[.pointer (some ⟨b, 0, none⟩)]] w fun e w' => e = .returned (.int .i64 v) ∧ Below w.heap.size w w' := by
  subst hl
  have hlen : rs.length ≤ 5000000000000 := h.2.1
  have HH := hid h
  have QQ := hid hq
  have HV := hid hv
  have EE := hid hE
  have KQ := hid hb
  clear h hq hv hE hb
  go_enter Tryd.func15, Tryd.ntmps15
  go_wp2_with fail
  go_loopw [8] (fun vi wr => ∃ i : Nat, i ≤ rs.length ∧ vi = .int .i64 (i : Int) ∧ (∀ j, j < i → (holds q rs)[j]? = some false) ∧ Below w.heap.size w wr) (fun vi _ => rs.length - (intOf vi).toNat)
  case atStart => exact ⟨0, Nat.zero_le _, rfl, fun j hj => by omega, Below.refl _ _⟩
  case round =>
    obtain ⟨i, hi, rfl, hf, hb⟩ := hrel
    have FF := hid hf
    have BB := hid hb
    clear hf hb
    by_cases ci : i < rs.length
    · have ci' : (i : Int) < (rs.length : Int) := by omega
      obtain ⟨b1, off, rfl, hbl, y', s', k0, k1, hM⟩ := (HH.out.below BB.out).here ci
      have hE0 := EE.out _ (List.getElem_mem ci)
      obtain ⟨o, ho⟩ : ∃ o, holdN q rs[i].ms = o := ⟨_, rfl⟩
      have GE : Hid ((holds q rs)[i]? = some o) := hid (by unfold holds; rw [List.getElem?_map, List.getElem?_eq_getElem ci]; simp only [Option.map_some, ho])
      have C2 := hid (clo_any rs[i].ms rs[i].act q o wr hM (QQ.out.below BB.out) hE0 ho (KQ.out.below BB.out))
      clear hM ho hE0
      generalize rs[i].ms = ms at *
      generalize rs[i].act = act at *
      cases o
      · go_wp2_with (go_at_call 16; refine C2.out.mono ?_; rintro e w1 ⟨rfl, k⟩; have B1 := hid (grown_on BB.out k); clear k)
        refine ⟨⟨i + 1, by omega, by go_num, fun j hj => ?_, B1.out⟩, by simp [intOf]; omega⟩
        by_cases hj' : j = i
        · subst hj'; exact GE.out
        · exact FF.out j (by omega)
      · have F5 : Hid (v = (i : Int)) := hid (by rw [← HV.out]; exact (Ch.first_is _ _).2 ⟨GE.out, FF.out⟩)
        go_wp2_with (go_at_call 16; refine C2.out.mono ?_; rintro e w1 ⟨rfl, k⟩; have B1 := hid (grown_on BB.out k); clear k)
        go_ret
        exact ⟨by rw [F5.out]; rfl, B1.out⟩
    · have ci' : ¬ (i : Int) < (rs.length : Int) := by omega
      have F5 : Hid (v = -1) := hid (by
        rw [← HV.out]
        refine Ch.first_neg ((Ch.first_none _).2 fun o he => ?_)
        obtain ⟨j, hj⟩ := List.mem_iff_getElem?.1 he
        have hjl : j < (holds q rs).length := (List.getElem?_eq_some_iff.1 hj).1
        have hjl' : j < rs.length := by unfold holds at hjl; rwa [List.length_map] at hjl
        have := FF.out j (by omega)
        rw [this] at hj
        exact (Option.some.inj hj).symm)
      go_wp2_with fail
      go_ret
      exact ⟨by rw [F5.out]; rfl, BB.out⟩

set_option maxHeartbeats 2000000 in
set_option maxRecDepth 100000 in
theorem cfirst_any {x y z : Option Addr} {c l s t : Nat} (i k : Int) (v : Value) (rs : List Ra) (q : Qy) (w : World) (h : Ras w x c rs) (hl : rs.length = l) (hq : QyIs w q y s z t) (hk : (chainE rs).2 = k) (hi : chainR q rs = i) (hv : errV k = v) :
    Calls Tryd.prog 9 #[.slice x l c, .agg #[.slice y q.N.length s, .int .i64 q.ty, .int .i64 q.cl, .int .i64 q.opc, .bool q.rd, .slice z q.F.length t]] w fun e w' => e = .returned (.tuple #[.int .i64 i, v]) ∧ Below w.heap.size w w' := by
  have b1 := boxed 26 w #[.slice y q.N.length s, .int .i64 q.ty, .int .i64 q.cl, .int .i64 q.opc, .bool q.rd, .slice z q.F.length t]
  have B1 := Bl.new 26 w #[.slice y q.N.length s, .int .i64 q.ty, .int .i64 q.cl, .int .i64 q.opc, .bool q.rd, .slice z q.F.length t]
  obtain ⟨W1, hW⟩ : ∃ W1, w.alloc (.cells #[.slice y q.N.length s, .int .i64 q.ty, .int .i64 q.cl, .int .i64 q.opc, .bool q.rd, .slice z q.F.length t] 26) = W1 := ⟨_, rfl⟩
  rw [hW] at b1 B1
  have HW := hid hW
  obtain ⟨a, hck⟩ : ∃ a, chainE rs = (a, k) := ⟨(chainE rs).1, by rw [← hk]⟩
  have CC := hid (ccheck_any a k v rs W1 (h.below b1) hl hck hv)
  have BB := hid b1
  have HH := hid (h.below b1)
  have QQ := hid (hq.below b1)
  have KQ := hid B1
  clear b1 B1 hW h hq hck
  by_cases h0 : k = 0
  · subst h0
    obtain rfl : v = .nilIface := hv.symm
    have EE := hid (chainE_zero.1 hk).2
    have FI := hid ((chainR_first hk).symm.trans hi)
    clear hk hi hv
    go_enter Tryd.func9, Tryd.ntmps9
    go_upto_region 1 with fail
    rw [HW.out]
    clear HW
    go_wp2_with fail
    refine CC.out.mono ?_
    rintro e w1 ⟨rfl, k⟩
    replace HH := hid (HH.out.below k)
    replace QQ := hid (QQ.out.below k)
    replace KQ := hid (KQ.out.below k)
    replace BB := hid (grown_on BB.out k)
    clear k CC
    go_wp2_with fail
    refine (cidx_any i rs q w1 HH.out hl QQ.out EE.out FI.out KQ.out).mono ?_
    rintro e w2 ⟨rfl, k⟩
    replace BB := hid (grown_on BB.out k)
    clear k
    go_wp2_with fail
    refine bodyPost_ret (results_tmp2 rfl _ _ _) rfl ?_
    exact ⟨rfl, BB.out⟩
  · obtain rfl : i = 0 := by rw [← hi]; unfold chainR; rw [if_neg (by rw [hk]; exact h0)]
    obtain rfl : v = .iface 28 (.int .i64 k) := by rw [← hv]; exact errV_some h0
    clear hk hi hv h0
    go_enter Tryd.func9, Tryd.ntmps9
    go_upto_region 1 with fail
    rw [HW.out]
    clear HW
    go_wp2_with fail
    refine CC.out.mono ?_
    rintro e w1 ⟨rfl, k⟩
    replace BB := hid (grown_on BB.out k)
    clear k CC
    go_wp2_with fail
    refine bodyPost_ret (results_tmp2 rfl _ _ _) rfl ?_
    exact ⟨rfl, BB.out⟩

set_option maxHeartbeats 2000000 in
set_option maxRecDepth 100000 in
theorem cdo_any {x y z : Option Addr} {c l s t : Nat} (other d k : Int) (v : Value) (rs : List Ra) (q : Qy) (w : World) (h : Ras w x c rs) (hl : rs.length = l) (hq : QyIs w q y s z t) (hk : (chainE rs).2 = k) (hd : chainD q other rs = d) (hv : errV k = v) :
    Calls Tryd.prog 10 #[.slice x l c, .agg #[.slice y q.N.length s, .int .i64 q.ty, .int .i64 q.cl, .int .i64 q.opc, .bool q.rd, .slice z q.F.length t], .int .i64 other] w fun e w' => e = .returned (.tuple #[.int .i64 d, v]) ∧ Below w.heap.size w w' := by
  have b1 := boxed 26 w #[.slice y q.N.length s, .int .i64 q.ty, .int .i64 q.cl, .int .i64 q.opc, .bool q.rd, .slice z q.F.length t]
  have B1 := Bl.new 26 w #[.slice y q.N.length s, .int .i64 q.ty, .int .i64 q.cl, .int .i64 q.opc, .bool q.rd, .slice z q.F.length t]
  obtain ⟨W1, hW⟩ : ∃ W1, w.alloc (.cells #[.slice y q.N.length s, .int .i64 q.ty, .int .i64 q.cl, .int .i64 q.opc, .bool q.rd, .slice z q.F.length t] 26) = W1 := ⟨_, rfl⟩
  rw [hW] at b1 B1
  have HW := hid hW
  obtain ⟨i, hi⟩ : ∃ i, chainR q rs = i := ⟨_, rfl⟩
  have CC := hid (cfirst_any i k v rs q W1 (h.below b1) hl (hq.below b1) hk hi hv)
  have BB := hid b1
  have HH := hid (h.below b1)
  have hlen : rs.length ≤ 5000000000000 := h.2.1
  obtain ⟨q0, q1, q2, q3, q4, q5⟩ := bl6 B1
  clear b1 B1 hW h hq
  by_cases h0 : k = 0
  · subst h0
    obtain rfl : v = .nilIface := hv.symm
    have FI := hid ((chainR_first hk).symm.trans hi)
    have FD := hid ((chainD_act hk).symm.trans hd)
    clear hk hi hv hd
    by_cases hi0 : 0 ≤ i
    · obtain ⟨j, rfl⟩ : ∃ j : Nat, i = (j : Int) := ⟨i.toNat, by omega⟩
      obtain ⟨hj, hact⟩ := acts_get FI.out FD.out
      have hj2 : (j : Int) < (l : Int) := by omega
      have hj3 : ¬ (j : Int) < 0 := by omega
      go_enter Tryd.func10, Tryd.ntmps10
      go_upto_region 1 with fail
      rw [HW.out]
      clear HW
      go_wp2_with fail
      refine CC.out.mono ?_
      rintro e w1 ⟨rfl, k⟩
      replace HH := hid (HH.out.below k)
      replace BB := hid (grown_on BB.out k)
      clear k CC
      obtain ⟨b, off, rfl, hbl, y2, s2, k0, k1, hM⟩ := HH.out.here hj
      rw [hact] at k1
      clear k0 hM hact hj
      go_wp2_with fail
      refine bodyPost_ret (results_tmp2 rfl _ _ _) rfl ?_
      exact ⟨rfl, BB.out⟩
    · have HD2 : Hid (other = d) := hid (by rw [← FD.out]; exact (acts_none (by rw [FI.out]; omega)).symm)
      have hi1 : i < 0 := by omega
      go_enter Tryd.func10, Tryd.ntmps10
      go_upto_region 1 with fail
      rw [HW.out]
      clear HW
      go_wp2_with fail
      refine CC.out.mono ?_
      rintro e w1 ⟨rfl, k⟩
      replace BB := hid (grown_on BB.out k)
      clear k CC
      go_wp2_with fail
      refine bodyPost_ret (results_tmp2 rfl _ _ _) rfl ?_
      exact ⟨by rw [HD2.out]; rfl, BB.out⟩
  · obtain rfl : d = 0 := by rw [← hd]; unfold chainD; rw [if_neg (by rw [hk]; exact h0)]
    obtain rfl : v = .iface 28 (.int .i64 k) := by rw [← hv]; exact errV_some h0
    clear hk hi hv h0 hd
    go_enter Tryd.func10, Tryd.ntmps10
    go_upto_region 1 with fail
    rw [HW.out]
    clear HW
    go_wp2_with fail
    refine CC.out.mono ?_
    rintro e w1 ⟨rfl, k⟩
    replace BB := hid (grown_on BB.out k)
    clear k CC
    go_wp2_with fail
    refine bodyPost_ret (results_tmp2 rfl _ _ _) rfl ?_
    exact ⟨rfl, BB.out⟩

end Go.Proofs.YtnbabdfcamdapaaDoor.Ru

namespace Go.Proofs.YtnbabdfcamdapaaDoor.Ru
open Go.RowKit Go.Deep

/-- A question by its number alone. -/
def opN (o : Int) : Mt := ⟨o, 0, [], []⟩

def emptyQ : Qy := ⟨[], 0, 0, 0, false, []⟩

/-- The two rules of the law's own. -/
def twoR : List Ra := [⟨[opN 6], 0⟩, ⟨[opN 1], 5⟩]

theorem opN_mats {w : World} {g : Nat} {o : Int} (ho : -9223372036854775808 ≤ o ∧ o ≤ 9223372036854775807) (K : Bl 44 w g #[.int .i64 o, .int .i64 0, .slice none 0 0, .slice none 0 0]) : Mats w (some ⟨g, 0, none⟩) 1 [opN o] := by
  refine ⟨by simp, by simp, fun m hm => by rw [List.mem_singleton.1 hm]; exact ⟨ho.1, ho.2, by simp [opN], by simp [opN]⟩, Or.inr ⟨_, _, rfl, K.lt, fun i hi => ?_⟩⟩
  obtain rfl : i = 0 := by simpa using hi
  exact ⟨none, 0, none, 0, K.cell (i := 0) rfl, K.cell (i := 1) rfl, K.cell (i := 2) rfl, K.cell (i := 3) rfl, ⟨Nat.zero_le _, by simp [opN], fun s hs => by simp [opN] at hs, Or.inl rfl⟩, Bys.nil _ _ _, fun _ => rfl⟩

theorem twoR_zero : (chainE twoR).2 = 0 := chainE_zero.2 ⟨by decide, fun r hr => by
  simp only [twoR, List.mem_cons, List.not_mem_nil, or_false] at hr
  rcases hr with rfl | rfl <;> decide⟩

theorem twoR_first : chainR emptyQ twoR = 1 := by
  rw [chainR_first twoR_zero]
  have e1 : holdN emptyQ [opN 6] = false := (holdN_of (q := emptyQ) (tr := .leaf (opN 6)) rfl).trans rfl
  have e2 : holdN emptyQ [opN 1] = true := (holdN_of (q := emptyQ) (tr := .leaf (opN 1)) rfl).trans rfl
  simp only [holds, twoR, List.map_cons, List.map_nil, e1, e2]
  rfl

set_option maxHeartbeats 1000000 in
set_option maxRecDepth 100000 in
theorem chained_any (w : World) : Calls Tryd.prog 4 #[] w fun e w' => e = .returned (.bool true) ∧ Below w.heap.size w w' := by
  have K1 := Bl.new 44 w #[.int .i64 6, .int .i64 0, .slice none 0 0, .slice none 0 0]
  have b1 := boxed 44 w #[.int .i64 6, .int .i64 0, .slice none 0 0, .slice none 0 0]
  obtain ⟨W1, hW1⟩ : ∃ W1, w.alloc (.cells #[.int .i64 6, .int .i64 0, .slice none 0 0, .slice none 0 0] 44) = W1 := ⟨_, rfl⟩
  have z1 : W1.heap.size = w.heap.size + 1 := by rw [← hW1]; simp
  rw [hW1] at K1 b1
  have K2 := Bl.new 44 W1 #[.int .i64 1, .int .i64 0, .slice none 0 0, .slice none 0 0]
  have b2 := boxed 44 W1 #[.int .i64 1, .int .i64 0, .slice none 0 0, .slice none 0 0]
  obtain ⟨W2, hW2⟩ : ∃ W2, W1.alloc (.cells #[.int .i64 1, .int .i64 0, .slice none 0 0, .slice none 0 0] 44) = W2 := ⟨_, rfl⟩
  have z2 : W2.heap.size = w.heap.size + 2 := by rw [← hW2]; simp [z1]
  rw [hW2] at K2 b2
  rw [z1] at K2
  have K3 := Bl.new 39 W2 #[.slice (some ⟨w.heap.size, 0, none⟩) 1 1, .int .i64 0, .slice (some ⟨w.heap.size + 1, 0, none⟩) 1 1, .int .i64 5]
  have b3 := boxed 39 W2 #[.slice (some ⟨w.heap.size, 0, none⟩) 1 1, .int .i64 0, .slice (some ⟨w.heap.size + 1, 0, none⟩) 1 1, .int .i64 5]
  obtain ⟨W3, hW3⟩ : ∃ W3, W2.alloc (.cells #[.slice (some ⟨w.heap.size, 0, none⟩) 1 1, .int .i64 0, .slice (some ⟨w.heap.size + 1, 0, none⟩) 1 1, .int .i64 5] 39) = W3 := ⟨_, rfl⟩
  rw [hW3] at K3 b3
  rw [z2] at K3
  have m1 := opN_mats (by decide) ((K1.below b2).below b3)
  have m2 := opN_mats (by decide) (K2.below b3)
  have HM : Ras W3 (some ⟨w.heap.size + 2, 0, none⟩) 2 twoR := by
    refine ⟨by simp [twoR], by simp [twoR], fun r hr => ?_, Or.inr ⟨_, _, rfl, K3.lt, fun i hi => ?_⟩⟩
    · simp only [twoR, List.mem_cons, List.not_mem_nil, or_false] at hr
      rcases hr with rfl | rfl <;> decide
    · rcases (show i = 0 ∨ i = 1 by simp [twoR] at hi; omega) with rfl | rfl
      · exact ⟨_, _, K3.cell (i := 0) rfl, K3.cell (i := 1) rfl, m1⟩
      · exact ⟨_, _, K3.cell (i := 2) rfl, K3.cell (i := 3) rfl, m2⟩
  have HQ : QyIs W3 emptyQ none 0 none 0 := ⟨⟨Nat.zero_le _, by simp [emptyQ], fun s hs => by simp [emptyQ] at hs, Or.inl rfl⟩, Bys.nil _ _ _, by decide, by decide, by decide, fun _ => rfl⟩
  have C := hid (cfirst_any 1 0 .nilIface twoR emptyQ W3 HM rfl HQ twoR_zero twoR_first rfl)
  have BB := hid (grown_on (grown_on b1 b2) b3)
  subst hW1
  subst hW2
  subst hW3
  clear b1 b2 b3 K1 K2 K3 m1 m2 HM HQ z1 z2
  go_enter Tryd.func4, Tryd.ntmps4
  go_wp2_with fail
  refine C.out.mono ?_
  rintro e w2 ⟨rfl, q⟩
  have B2 := hid (grown_on BB.out q)
  clear q
  go_wp2_with fail
  go_ret
  exact ⟨rfl, B2.out⟩

end Go.Proofs.YtnbabdfcamdapaaDoor.Ru
