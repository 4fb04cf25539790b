/-
  The walk of package rule's read: the tree of a rule, or what is wrong with it; and of Check.
-/
import Derived.Test.YtnbabdfcamdapaaRcGrow
namespace Go.Proofs.Ytnbabdfcamdapaa.Ru
open Go.RowKit Go.Deep

/-- What read hands back. -/
def ReadP (r : List Mt) (w : World) (e : Ending) (w' : World) : Prop :=
  Below w.heap.size w w' ∧
    ((ruleE r = 0 ∧ ∃ t cs, flat t = r ∧ wf t ∧ TIs w w' (fun k => w.heap.size ≤ k) t cs ∧ e = .returned (.tuple #[.agg cs.toArray, .nilIface])) ∨
      (¬ ruleE r = 0 ∧ e = .returned (.tuple #[.agg #[.int .i64 0, .int .i64 0, .slice none 0 0, .slice none 0 0, .slice none 0 0], .iface 52 (.int .i64 (ruleE r))])))

theorem firstE_split : ∀ (a : List Mt) (m : Mt) (b : List Mt), (∀ x ∈ a, matchE x = 0) → ¬ matchE m = 0 → firstE (a ++ m :: b) = matchE m
  | [], m, b, _, h => by rw [List.nil_append]; unfold firstE; rw [if_pos h]
  | x :: a, m, b, h, k => by
    rw [List.cons_append]
    unfold firstE
    rw [if_neg (by simpa using h x List.mem_cons_self)]
    exact firstE_split a m b (fun y hy => h y (List.mem_cons_of_mem _ hy)) k

theorem ruleE_long {r : List Mt} (h : 200 < r.length) : ruleE r = 7 := by unfold ruleE; rw [if_pos h]

theorem ruleE_node' {r : List Mt} {i : Nat} (h : ¬ 200 < r.length) (hi : i < r.length) (ha : ∀ m ∈ r.take i, matchE m = 0) (hm : ¬ matchE r[i] = 0) : ruleE r = matchE r[i] := by
  have e : r = r.take i ++ r[i] :: r.drop (i + 1) := by
    have := List.take_append_drop i r
    rw [List.drop_eq_getElem_cons hi] at this
    exact this.symm
  have f : firstE r = matchE r[i] := by
    have := firstE_split (r.take i) r[i] (r.drop (i + 1)) ha hm
    rwa [← e] at this
  unfold ruleE
  rw [if_neg h, f, if_pos hm]

theorem ruleE_all {r : List Mt} (h : ¬ 200 < r.length) (ha : ∀ m ∈ r, matchE m = 0) : ruleE r = if cntN 0 r = some 1 then 0 else 1 := by
  unfold ruleE
  rw [if_neg h, if_neg (by rw [firstE_zero.2 ha]; decide)]

theorem one_stack {r : List Mt} : cntN 0 r = some 1 ↔ ∃ t, stackN [] r = some [t] := by
  have e := stackN_cnt r []
  rw [List.length_nil] at e
  rw [← e]
  constructor
  · intro h
    cases hs : stackN [] r with
    | none => rw [hs] at h; cases h
    | some s =>
      rw [hs] at h
      have hl : s.length = 1 := by simpa using h
      match s, hl with
      | [t], _ => exact ⟨t, rfl⟩
  · rintro ⟨t, ht⟩
    rw [ht]; rfl

theorem results_read (tmps : Array Value) (w : World) (b : Nat) (v0 v1 v2 v3 v4 v : Value) (hp : tmps.getD 2 undef = .pointer (some ⟨b, 0, none⟩)) (h3 : tmps.getD 3 undef = v) (hb : Bl 48 w b #[v0, v1, v2, v3, v4]) :
    (results Try.f12 tmps).run Try.prog w = .ok (.tuple #[.agg #[v0, v1, v2, v3, v4], v]) w := by
  have c0 : w.cell? ⟨b, 0, none⟩ = some v0 := hb.cell (i := 0) rfl
  have c1 : w.cell? ⟨b, 1, none⟩ = some v1 := hb.cell (i := 1) rfl
  have c2 : w.cell? ⟨b, 2, none⟩ = some v2 := hb.cell (i := 2) rfl
  have c3 : w.cell? ⟨b, 3, none⟩ = some v3 := hb.cell (i := 3) rfl
  have c4 : w.cell? ⟨b, 4, none⟩ = some v4 := hb.cell (i := 4) rfl
  have hp' : tmps[2]?.getD undef = .pointer (some ⟨b, 0, none⟩) := by simpa using hp
  have h3' : tmps[3]?.getD undef = v := by simpa using h3
  simp [results, Try.results12, go_sem, hp', h3', c0, c1, c2, c3, c4]

set_option maxHeartbeats 4000000 in
set_option maxRecDepth 100000 in
theorem read_any {x : Option Addr} {c l : Nat} (r : List Mt) (w : World) (h : Mats w x c r) (hl : r.length = l) : Calls Try.prog 12 #[.slice x l c] w (ReadP r w) := by
  subst hl
  have K0 := Bl.new 48 w #[.int .i64 0, .int .i64 0, .slice none 0 0, .slice none 0 0, .slice none 0 0]
  have B0 := boxed 48 w #[.int .i64 0, .int .i64 0, .slice none 0 0, .slice none 0 0, .slice none 0 0]
  have HH := hid h
  have hlen := h.2.1
  obtain ⟨W0, hW⟩ : ∃ W0, w.alloc (.cells #[.int .i64 0, .int .i64 0, .slice none 0 0, .slice none 0 0, .slice none 0 0] 48) = W0 := ⟨_, rfl⟩
  rw [hW] at K0 B0
  have KK := hid K0
  have BB := hid B0
  have HW := hid hW
  clear K0 B0 h hW
  by_cases c200 : 200 < r.length
  · have E := hid (ruleE_long c200)
    have c2 : (200 : Int) < (r.length : Int) := by omega
    go_enter Try.func12, Try.ntmps12
    go_upto_region 1 with fail
    rw [HW.out]
    clear HW
    obtain ⟨z0, z1, z2, z3, z4⟩ := bl5 KK.out
    have y0 := KK.out.frozen 0
    have y1 := KK.out.frozen 1
    have y2 := KK.out.frozen 2
    have y3 := KK.out.frozen 3
    have y4 := KK.out.frozen 4
    go_wp2_with fail
    refine bodyPost_ret (results_read _ _ w.heap.size _ _ _ _ _ _ rfl rfl (put5' KK.out _ _ _ _ _)) rfl ?_
    exact ⟨below5' BB.out (Nat.le_refl _) _ _ _ _ _, Or.inr ⟨by rw [E.out]; decide, by rw [E.out]; rfl⟩⟩
  have c2 : ¬ (200 : Int) < (r.length : Int) := by omega
  go_enter Try.func12, Try.ntmps12
  go_upto_region 1 with fail
  rw [HW.out]
  clear HW
  go_wp2_with fail
  go_loopw [14] (fun vi wr => ∃ i : Nat, i ≤ r.length ∧ vi = .int .i64 (i : Int) ∧ (∀ m ∈ r.take i, matchE m = 0) ∧ Bl 48 wr w.heap.size #[.int .i64 0, .int .i64 0, .slice none 0 0, .slice none 0 0, .slice none 0 0] ∧ Below w.heap.size w wr) (fun vi _ => r.length - (intOf vi).toNat)
  case atStart => exact ⟨0, Nat.zero_le _, rfl, fun m hm => by simp at hm, KK.out, BB.out⟩
  case round =>
    clear KK BB
    obtain ⟨i, hi, rfl, hall, hbl, hbel⟩ := hrel
    by_cases ci : i < r.length
    rotate_left
    · have ei : i = r.length := by omega
      subst ei
      rw [List.take_of_length_le (Nat.le_refl _)] at hall
      have c3 : ¬ (r.length : Int) < (r.length : Int) := by omega
      have E := hid (ruleE_all c200 hall)
      have GR := hid (grow_any (l := r.length) r w wr HH.out hbel rfl (by omega))
      have KK := hid hbl
      have BB := hid hbel
      have LT := hid hbl.lt
      clear hbl hbel hall
      go_wp2_with fail
      refine GR.out.mono ?_
      rintro e w2 ⟨b2, ⟨t, cs, hst, hT, rfl⟩ | ⟨hno, rfl⟩⟩
      · have hfl := stackN_flats r [] [t] hst
        have hwf := stackN_wf r [] [t] hst (fun t ht => by simp at ht) t List.mem_cons_self
        have E0 : Hid (ruleE r = 0) := hid (by rw [E.out, if_pos (one_stack.2 ⟨t, hst⟩)])
        have HF : Hid (flat t = r) := hid (by simpa [flats] using hfl)
        have HWf := hid hwf
        replace KK := hid (KK.out.below b2)
        have hlt := LT.out
        replace BB := hid (grown_on BB.out b2)
        obtain ⟨e5, x5, n5, c5, rfl⟩ := hT.form
        have hT2 : Hid (∀ v0 v1 v2 v3 v4, TIs w (((((w2.setCell ⟨w.heap.size, 0, none⟩ v0).setCell ⟨w.heap.size, 1, none⟩ v1).setCell ⟨w.heap.size, 2, none⟩ v2).setCell ⟨w.heap.size, 3, none⟩ v3).setCell ⟨w.heap.size, 4, none⟩ v4) (fun k => w.heap.size ≤ k) t (tcells e5 x5 n5 c5)) := hid (fun v0 v1 v2 v3 v4 => hT.mono (by simp) fun k _ hk => ⟨by have := hk; omega, five_above (by have := hk; omega) v0 v1 v2 v3 v4⟩)
        have e : (tcells e5 x5 n5 c5).toArray = #[.int .i64 e5.m.op, .int .i64 e5.m.n, .slice e5.y e5.m.N.length e5.s, .slice e5.z e5.m.A.length e5.t, .slice x5 n5 c5] := rfl
        rw [e]
        clear e hT hst hfl hwf b2 hlt
        obtain ⟨z0, z1, z2, z3, z4⟩ := bl5 KK.out
        have y0 := KK.out.frozen 0
        have y1 := KK.out.frozen 1
        have y2 := KK.out.frozen 2
        have y3 := KK.out.frozen 3
        have y4 := KK.out.frozen 4
        go_wp2_with fail
        refine bodyPost_ret (results_read _ _ w.heap.size _ _ _ _ _ _ rfl rfl (put5' KK.out _ _ _ _ _)) rfl ?_
        exact ⟨below5' BB.out (Nat.le_refl _) _ _ _ _ _, Or.inl ⟨E0.out, t, tcells e5 x5 n5 c5, HF.out, HWf.out, hT2.out _ _ _ _ _, rfl⟩⟩
      · have E0 : Hid (ruleE r = 1) := hid (by rw [E.out, if_neg (fun q => hno (one_stack.1 q))])
        replace KK := hid (KK.out.below b2)
        replace BB := hid (grown_on BB.out b2)
        clear hno b2
        obtain ⟨z0, z1, z2, z3, z4⟩ := bl5 KK.out
        have y0 := KK.out.frozen 0
        have y1 := KK.out.frozen 1
        have y2 := KK.out.frozen 2
        have y3 := KK.out.frozen 3
        have y4 := KK.out.frozen 4
        go_wp2_with fail
        refine bodyPost_ret (results_read _ _ w.heap.size _ _ _ _ _ _ rfl rfl (put5' KK.out _ _ _ _ _)) rfl ?_
        exact ⟨below5' BB.out (Nat.le_refl _) _ _ _ _ _, Or.inr ⟨by rw [E0.out]; decide, by rw [E0.out]; rfl⟩⟩
    · obtain ⟨b0, o0, rfl, hb0, qa⟩ := HH.out.all (by omega)
      obtain ⟨y, s, z, t, p0, p1, p2, p3, q1, q2, q3⟩ := qa i ci
      have hcap := HH.out.1
      have e0 := (hbel.cell (p := ⟨b0, o0 + i * 4, none⟩) hb0).trans p0
      have e1 := (hbel.cell (p := ⟨b0, o0 + i * 4 + 1, none⟩) hb0).trans p1
      have e2 := (hbel.cell (p := ⟨b0, o0 + i * 4 + 2, none⟩) hb0).trans p2
      have e3 := (hbel.cell (p := ⟨b0, o0 + i * 4 + 3, none⟩) hb0).trans p3
      have GN : Hid (matchE r[i] = 0 → ∀ m ∈ r.take (i + 1), matchE m = 0) := hid (fun h m hm => by
        rw [← List.take_append_getElem ci] at hm
        rcases List.mem_append.1 hm with hm | hm
        · exact hall m hm
        · rw [List.mem_singleton.1 hm]; exact h)
      have BN : Hid (¬ matchE r[i] = 0 → ruleE r = matchE r[i]) := hid (fun h => ruleE_node' c200 ci hall h)
      clear qa p0 p1 p2 p3 hall
      generalize r[i] = m at *
      have ci2 : (i : Int) < (r.length : Int) := by omega
      have BA := boxed 41 wr #[.int .i64 m.op, .int .i64 m.n, .slice y m.N.length s, .slice z m.A.length t]
      have K1 := hid (Bl.new 41 wr #[.int .i64 m.op, .int .i64 m.n, .slice y m.N.length s, .slice z m.A.length t])
      obtain ⟨W1, hW⟩ : ∃ W1, wr.alloc (.cells #[.int .i64 m.op, .int .i64 m.n, .slice y m.N.length s, .slice z m.A.length t] 41) = W1 := ⟨_, rfl⟩
      rw [hW] at BA K1
      have HW := hid hW
      have KK := hid (hbl.below BA)
      have BB := hid (grown_on hbel BA)
      have SS := hid ((q1.below hbel).below BA)
      have DD := hid ((q2.below hbel).below BA)
      clear hbl hbel BA q1 q2 q3 hW
      obtain ⟨m0, m1, m2, m3⟩ := bl4 K1.out
      go_upto_region 6 with fail
      rw [HW.out]
      clear HW e0 e1 e2 e3
      by_cases cm : matchE m = 0
      · have CK := hid (ncheck_any m .nilIface W1 SS.out DD.out (by rw [cm]; rfl))
        replace GN := hid (GN.out cm)
        clear cm BN
        go_wp2_with fail
        refine CK.out.mono ?_
        rintro e w2 ⟨rfl, b2⟩
        replace KK := hid (KK.out.below b2)
        replace BB := hid (grown_on BB.out b2)
        clear b2 CK m0 m1 m2 m3
        go_wp2_with fail
        exact ⟨⟨i + 1, by omega, by go_num, GN.out, KK.out, BB.out⟩, by simp [intOf]; omega⟩
      · have CK := hid (ncheck_any m (.iface 52 (.int .i64 (matchE m))) W1 SS.out DD.out (errV_some cm))
        have E0 := hid (BN.out cm)
        have CM := hid cm
        clear cm BN GN
        generalize matchE m = k at *
        go_wp2_with fail
        refine CK.out.mono ?_
        rintro e w2 ⟨rfl, b2⟩
        replace KK := hid (KK.out.below b2)
        replace BB := hid (grown_on BB.out b2)
        clear b2 CK m0 m1 m2 m3
        obtain ⟨z0, z1, z2, z3, z4⟩ := bl5 KK.out
        have y0 := KK.out.frozen 0
        have y1 := KK.out.frozen 1
        have y2 := KK.out.frozen 2
        have y3 := KK.out.frozen 3
        have y4 := KK.out.frozen 4
        go_wp2_with fail
        refine bodyPost_ret (results_read _ _ w.heap.size _ _ _ _ _ _ rfl rfl (put5' KK.out _ _ _ _ _)) rfl ?_
        exact ⟨below5' BB.out (Nat.le_refl _) _ _ _ _ _, Or.inr ⟨by rw [E0.out]; exact CM.out, by rw [E0.out]; rfl⟩⟩

end Go.Proofs.Ytnbabdfcamdapaa.Ru
