/-
  The walk of the law MsgGrows over its callees' contracts: for any message and any record it hands back true, and writes nothing that was there.
-/
import Derived.Test.YtjpahieeaojieabMgAll
import Derived.Test.YtjpahieeaojieabMgGrow
import Derived.Test.YtjpahieeaojieabMgFacts
import Derived.Test.YtjpahieeaojieabMsgBytes
import Derived.Deep.Cut
import Derived.Deep.RegionHeld3
namespace Go.Proofs.Ytjpahieeaojieab
open Go.RowKit Go.Deep

/-- A row of the call's own (behind w0) that holds records whose parts lie in memory that was there (wp). -/
def GRow (wp w0 : World) (v : Value) (rs : List Rn) (w : World) : Prop :=
  (∃ L : List (Rn × (Option Addr × Nat) × (Option Addr × Nat)), L.map (·.1) = rs ∧ w.ownsRow w0.heap.size 31 5 v L.length (L.flatMap rcells) ∧ ∀ e ∈ L, Strs wp e.2.1.1 e.2.1.2 e.1.N ∧ Bys wp e.2.2.1 e.2.2.2 e.1.D ∧ (e.2.2.1 = none → e.2.2.2 = 0)) ∧ Below w0.heap.size w0 w

theorem GRow.below {wp w0 w w' : World} {v : Value} {rs : List Rn} (h : GRow wp w0 v rs w) (k : Below w.heap.size w w') : GRow wp w0 v rs w' := by
  obtain ⟨⟨L, h1, h2, h3⟩, hb⟩ := h
  exact ⟨⟨L, h1, owns_stay h2 k, h3⟩, grown_on hb k⟩

theorem owns_far {w : World} {B e n m : Nat} {v : Value} {xs : List Value} (h : w.ownsRow B e m v n xs) {p : Addr} (hp : p.block < B) (u : Value) : (w.setCell p u).ownsRow B e m v n xs := by
  refine h.kept (row := some p.block) ⟨rfl, rfl, rfl, by simp [World.setCell], fun k hk hne => Below.heap_setCell w p u k (fun e => hne (by rw [e]))⟩ ?_
  right
  intro q
  have := (World.ownsRow.lt h _ q).1
  omega

theorem owns_base5 {w : World} {B B' e n m : Nat} {v : Value} {xs : List Value} (h : w.ownsRow B e m v n xs) (k : B' ≤ B) : w.ownsRow B' e m v n xs := by
  obtain ⟨h1, h2⟩ := h
  refine ⟨h1, ?_⟩
  rcases h2 with q | ⟨g, cap, cur, hv, hb, r⟩
  · exact Or.inl q
  · exact Or.inr ⟨g, cap, cur, hv, Nat.le_trans k hb, r⟩

theorem wp_on {w w1 w2 : World} (h : Below w.heap.size w w1) (k : Below w1.heap.size w1 w2) : Below w.heap.size w w2 := h.trans (k.mono h.size)

/-- Such a row, with a cell of a block between the two written. -/
theorem GRow.put {wp w0 w : World} {v : Value} {rs : List Rn} (h : GRow wp w0 v rs w) (hw : Below wp.heap.size wp w0) (hl : rs.length ≤ 4000000000000) {p : Addr} (h1 : wp.heap.size ≤ p.block) (h2 : p.block < w0.heap.size) :
    ∃ x c, v = .slice x rs.length c ∧ ∀ u, Rs (w.setCell p u) 0 x c rs := by
  obtain ⟨⟨L, h3, h4, h5⟩, hb⟩ := h
  have hl' : L.length = rs.length := by rw [← h3, List.length_map]
  have hv : ∃ x c, v = .slice x rs.length c := by
    rcases h4.2 with ⟨e, e2⟩ | ⟨g, cap, cur, e, _⟩
    · exact ⟨none, 0, by rw [e, ← hl', e2]⟩
    · exact ⟨_, _, by rw [e, hl']⟩
  obtain ⟨x, c, hv⟩ := hv
  refine ⟨x, c, hv, fun u => ?_⟩
  have hbb : Below wp.heap.size wp (w.setCell p u) := Below.setCell (wp_on hw hb) h1 u
  have ho := owns_far h4 h2 u
  have hA : ARow wp v rs (w.setCell p u) := ⟨⟨L, h3, owns_base5 ho hw.size, h5⟩, hbb⟩
  obtain ⟨x', c', e, hR⟩ := hA.open hl
  rw [hv] at e
  simp only [Value.slice.injEq, true_and] at e
  obtain ⟨rfl, rfl⟩ := e
  exact hR

/-- Records that lie somewhere, one behind the other, their parts in memory that was there. -/
def RList (w0 w : World) (x : Option Addr) (m : Nat) (rs : List Rn) : Prop :=
  ∃ M : List (Rn × (Option Addr × Nat) × (Option Addr × Nat)), M.length = m ∧ M.map (·.1) = rs ∧ (∀ e ∈ M, Strs w0 e.2.1.1 e.2.1.2 e.1.N ∧ Bys w0 e.2.2.1 e.2.2.2 e.1.D ∧ (e.2.2.1 = none → e.2.2.2 = 0)) ∧
    (M = [] ∨ ∃ b off, x = some ⟨b, off, none⟩ ∧ ∀ j u, (M.flatMap rcells)[j]? = some u → w.cell? ⟨b, off + j, none⟩ = some u)

theorem Rs.rlist {w0 w : World} {bq : Nat} {x : Option Addr} {c : Nat} {rs : List Rn} (h : Rs w0 bq x c rs) (hb : Below w0.heap.size w0 w) : RList w0 w x rs.length rs := by
  obtain ⟨M, hM, hin, hc⟩ := h.list
  refine ⟨M, by rw [← hM, List.length_map], hM, hin, ?_⟩
  rcases hc with q | ⟨b, off, rfl, hlt, hcell⟩
  · left; subst q; exact List.map_eq_nil_iff.1 hM
  · right
    exact ⟨b, off, rfl, fun j u hj => by rw [hb.cell (p := ⟨b, off + j, none⟩) hlt]; exact hcell j u hj⟩

/-- Records appended to a row of the call's own, as a step of a region. -/
theorem step_append_rs {wp w0 w : World} {xs rs : List Rn} {y : Option Addr} {m c : Nat} {ops : Array Oper} {o : Oper} {a : Act} {K : Act → World → Prop} {Q : Exit → Act → World → Prop} {E : Prop} (hgd : o.guard = none) (sl x : Operand)
    (ho : o.op = .call { callee := .builtin .append, args := #[sl, x], argTypes := #[25, 25] }) (v : Value) (hs : a.eval sl = v) (hx : a.eval x = .slice y m c) (h : GRow wp w0 v xs w) (hr : RList wp w y m rs) (hl : (xs.length + m) * 72 ≤ 140737488355328)
    (hK : ∀ v' w', GRow wp w0 v' (xs ++ rs) w' → w.grownBy w' v.ownBlock → K (a.put o.dst v') w') :
    if Region.wanted o (yielded ops a.tmps) = true then Oper.wp Try.prog o a w K Q else E := by
  have hw : Region.wanted o (yielded ops a.tmps) = true := by simp [Region.wanted, hgd]
  rw [if_pos hw]
  obtain ⟨i0, hi, hz0, hz1, hz2⟩ := info_of_record
  obtain ⟨⟨L, hL, hown, hin⟩, hb0⟩ := h
  obtain ⟨M, hMl, hM, hMin, hMc⟩ := hr
  have hLl : L.length = xs.length := by rw [← hL, List.length_map]
  have H : ∃ v' w', (Builtin.append_ #[25, 25] o.type #[v, .slice y m c]).run Try.prog w = .ok v' w' ∧ GRow wp w0 v' (xs ++ rs) w' ∧ w.grownBy w' v.ownBlock := by
    rcases hMc with h3 | ⟨b, off, rfl, hcell⟩
    · subst h3
      have hrs : rs = [] := by rw [← hM]; rfl
      have hm0 : m = 0 := by rw [← hMl]; rfl
      subst hrs hm0
      have hv : ∃ base cap, v = .slice base L.length cap ∧ L.length ≤ cap := by
        rcases hown.2 with ⟨e, e2⟩ | ⟨g, cap, cur, e, _, _, hn, _⟩
        · exact ⟨none, 0, by rw [e, e2], by omega⟩
        · exact ⟨_, cap, e, hn⟩
      obtain ⟨base, cap, rfl, hle⟩ := hv
      have hsrc : Src Try.prog i0.size 25 (.slice y 0 c) 0 [] w := by
        cases y with
        | none => exact Src.ofNil w Try.underlying25 c
        | some a => exact Src.ofSlice w Try.underlying25 a 0 c [] (by simp) (fun j u hj => by simp at hj) (fun u hu => by cases hu)
      refine ⟨_, w, run_append_nothing w 25 25 o.type 31 i0 Try.underlying25 hi base L.length cap hle _ hsrc, ⟨⟨L, by rw [hL, List.append_nil], hown, hin⟩, hb0⟩, ⟨rfl, rfl, rfl, Nat.le_refl _, fun k _ _ => rfl⟩⟩
    · have hnews : ∀ j u, (M.flatMap rcells)[j]? = some u → w.cell? ((⟨b, off, none⟩ : Addr).add j) = some u := by
        intro j u hj
        rw [Go.WideShapes.add_plain]
        exact hcell j u hj
      have hone : ∀ u ∈ M.flatMap rcells, u.oneCell' = true := by
        intro u hu
        obtain ⟨e, _, hu2⟩ := List.mem_flatMap.1 hu
        simp only [rcells, List.mem_cons, List.not_mem_nil, or_false] at hu2
        rcases hu2 with rfl | rfl | rfl | rfl | rfl <;> rfl
      obtain ⟨v', w', hrun, hown', hg, _, _⟩ := run_append_own_at (P := Try.prog) w w0.heap.size 25 o.type 31 i0 (.agg #[.slice none 0 0, .int .i64 0, .int .i64 0, .int .i64 0, .slice none 0 0]) 5 72 Try.underlying25 hi hz0 hz1 hz2 rfl (by decide) v L.length (L.flatMap rcells) hown ⟨b, off, none⟩ m c (M.flatMap rcells) (by rw [flat_len rcells 5 (fun a => rfl), hMl]) hnews hone (by unfold maxLen; omega) (by omega) hb0.size
      refine ⟨v', w', hrun, ⟨⟨L ++ M, by rw [List.map_append, hL, hM], ?_, fun e he => ?_⟩, ?_⟩, hg⟩
      · rw [List.length_append, hMl, List.flatMap_append]
        exact hown'
      · rcases List.mem_append.1 he with he | he
        · exact hin e he
        · exact hMin e he
      · exact hb0.grown hg hb0.size (fun k hk => (World.ownsRow.lt hown k hk).1)
  obtain ⟨v', w', hrun, har, hg⟩ := H
  unfold Oper.wp execOp
  simp only [ho, resolve, invoke, builtin, Sem.run_bind, Sem.run_pure, Result.andThen_ok, List.map_toArray, List.map_cons, List.map_nil, hs, hx, hrun]
  exact hK v' w' har hg

/-- A row that was just made, and holds nothing. -/
theorem arow_void {wp w0 u : World} {b : Nat} (hB : Below w0.heap.size w0 u) (hu : u.ownsRow w0.heap.size 31 5 (.slice (some ⟨b, 0, none⟩) 0 0) 0 []) : GRow wp w0 (.slice (some ⟨b, 0, none⟩) 0 0) [] u :=
  ⟨⟨[], rfl, hu, fun e he => by simp at he⟩, hB⟩

theorem void1 (wp w : World) : GRow wp w (.slice (some ⟨w.heap.size, 0, none⟩) 0 0) [] (w.drew.alloc (.cells #[] 31)) :=
  arow_void ((Below.drew (Below.refl _ w)).alloc (Nat.le_refl _) _) (World.ownsRow_made w.drew #[] 0 (Nat.le_refl _) (by decide) (by simp))

theorem void2 (wp w : World) (o : Obj) : GRow wp w (.slice (some ⟨w.heap.size, 0, none⟩) 0 0) [] ((w.drew.alloc (.cells #[] 31)).alloc o) :=
  (void1 wp w).below ((Below.refl _ _).alloc (Nat.le_refl _) _)

theorem void3 (wp w : World) (o : Obj) : GRow wp w (.slice (some ⟨w.heap.size + 1, 0, none⟩) 0 0) [] ((w.drew.alloc o).alloc (.cells #[] 31)) := by
  have hs : (w.drew.alloc o).heap.size = w.heap.size + 1 := by simp
  have h := World.ownsRow_made (base := w.heap.size) (e := 31) (size := 5) (w.drew.alloc o) #[] 0 (by simp) (by decide) (by simp)
  rw [hs] at h
  exact arow_void (((Below.drew (Below.refl _ w)).alloc (Nat.le_refl _) _).alloc (by simp) _) h

theorem step_append_old {wp w0 w : World} {bq : Nat} {xs rs : List Rn} {y : Option Addr} {c : Nat} {ops : Array Oper} {o : Oper} {a : Act} {K : Act → World → Prop} {Q : Exit → Act → World → Prop} {E : Prop} (hgd : o.guard = none) (sl x : Operand)
    (ho : o.op = .call { callee := .builtin .append, args := #[sl, x], argTypes := #[25, 25] }) (v : Value) (hs : a.eval sl = v) (hx : a.eval x = .slice y rs.length c) (h : GRow wp w0 v xs w) (hw : Below wp.heap.size wp w0) (hr : Rs wp bq y c rs) (hl : (xs.length + rs.length) * 72 ≤ 140737488355328)
    (hK : ∀ v' w', GRow wp w0 v' (xs ++ rs) w' → w.grownBy w' v.ownBlock → K (a.put o.dst v') w') :
    if Region.wanted o (yielded ops a.tmps) = true then Oper.wp Try.prog o a w K Q else E := step_append_rs hgd sl x ho v hs hx h (hr.rlist (wp_on hw h.2)) hl hK

theorem alloc1 (w : World) (o : Obj) : Below w.heap.size w (w.drew.alloc o) := (Below.drew (Below.refl _ w)).alloc (Nat.le_refl _) _

theorem alloc2 (w : World) (o o' : Obj) : Below w.heap.size w ((w.drew.alloc o).alloc o') := (alloc1 w o).alloc (by simp) _

theorem keep2 {w w2 : World} {o : Obj} {C : Array Value} (h : ((w.drew.alloc o).alloc (.cells C 31)).grownBy w2 (some w.heap.size)) : Bl 31 w2 (w.heap.size + 1) C := by
  have k := Bl.new2 31 w.drew o C
  unfold Bl at k ⊢
  rw [h.block (w.heap.size + 1) (by simp) (by simp)]
  exact k

theorem keep3 {w w2 : World} {o : Obj} {C : Array Value} (h : ((w.drew.alloc (.cells C 31)).alloc o).grownBy w2 (some (w.heap.size + 1))) : Bl 31 w2 w.heap.size C := by
  have k := (Bl.new 31 w.drew C).below ((Below.refl _ _).alloc (Nat.le_refl _) o)
  unfold Bl at k ⊢
  rw [h.block w.heap.size (by simp; omega) (by simp)]
  exact k

theorem one_of {w0 u : World} {b : Nat} {y z : Option Addr} {s t : Nat} {r : Rn} (k : Bl 31 u b #[.slice y r.N.length s, .int .i64 r.ty, .int .i64 r.cl, .int .i64 r.ttl, .slice z r.D.length t]) (hN : Strs w0 y s r.N) (hD : Bys w0 z t r.D) (hz : z = none → t = 0) : RList w0 u (some ⟨b, 0, none⟩) 1 [r] := by
  refine ⟨[(r, (y, s), (z, t))], rfl, rfl, fun e he => ?_, Or.inr ⟨b, 0, rfl, fun j v hj => ?_⟩⟩
  · rw [List.mem_singleton] at he
    subst he
    exact ⟨hN, hD, hz⟩
  · rw [Nat.zero_add]
    refine k.cell (i := j) ?_
    rw [List.getElem?_toArray]
    simpa [rcells] using hj

theorem longR_le (rs : List Rn) (h : ∀ r ∈ rs, rE r = 0) : longR rs ≤ rs.length * 65900 := by
  induction rs with
  | nil => simp [longR]
  | cons r rs ih =>
    have h1 := ih (fun x hx => h x (List.mem_cons_of_mem _ hx))
    have h4 := recE_zero (h r List.mem_cons_self)
    have h2 := (check_zero h4.1).2
    have h3 : longR (r :: rs) = Nm.total (r.N.map Nm.bs) + 1 + 10 + r.D.length + longR rs := by simp [longR]
    have h5 := h4.2.2.2.2
    rw [List.length_cons]; omega

theorem Bys.cut {w : World} {b o c : Nat} {ms : List Int} (h : Bys w (some ⟨b, o, none⟩) c ms) (i k : Nat) (hp : 0 < ms.length) (hik : i + k ≤ ms.length) : Bys w (some ⟨b, o + i, none⟩) (c - i) (Nm.cut ms i k) := by
  obtain ⟨h1, h2, h3, h4⟩ := h
  rcases h4 with q | ⟨b', o', e, hb, q⟩
  · rw [q] at hp; simp at hp
  · cases e
    exact bys_sub hb h1 h2 h3 q i k hik

theorem sent_tell {y : Option Addr} {d l : Nat} (n : List ByteArray) (tt : Nat) (w : World) (hn : Strs w y d n) (hl : n.length = l) (hk : Nm.checkN (n.map Nm.bs) = 0) (ht : Nm.total (n.map Nm.bs) = tt) :
    Calls Try.prog 7 #[.slice y l d] w fun e w' => ∃ x c, e = .returned (.slice x (tt + 1) c) ∧ Below w.heap.size w w' := by
  subst ht
  refine (sent_any n w hn hl hk).mono ?_
  rintro e w' ⟨x, c, he, _, hb⟩
  exact ⟨x, c, he, hb⟩

theorem gw_ok {xq x1 x2 x3 : Option Addr} {cq c1 c2 c3 bq : Nat} (h : Hd) (qs : List Qn) (r1 r2 r3 : List Rn) (F : List Int) (w : World) (hq : Qs w bq xq cq qs) (hr1 : Rs w bq x1 c1 r1) (hr2 : Rs w bq x2 c2 r2) (hr3 : Rs w bq x3 c3 r3) (hE : msgE h qs r1 r2 r3 = 0) (hF : (endS h qs r1 r2 r3).1 = F) :
    Calls Try.prog 5 #[.agg #[.int .i64 h.id, .bool h.an, .int .i64 h.op, .bool h.aa, .bool h.tc, .bool h.rd, .bool h.ra, .bool h.z, .bool h.ad, .bool h.cd, .int .i64 h.code, .slice xq qs.length cq, .slice x1 r1.length c1, .slice x2 r2.length c2, .slice x3 r3.length c3]] w fun e w' => ∃ g c, e = .returned (.tuple #[.slice (some ⟨g, 0, none⟩) F.length c, .nilIface]) ∧ Bys w' (some ⟨g, 0, none⟩) c F ∧ F.length ≤ c ∧ Below w.heap.size w w' := by
  refine (mwrite_any h qs r1 r2 r3 w hq hr1 hr2 hr3).mono ?_
  have hD : ∀ r ∈ r1 ++ r2 ++ r3, ∀ b ∈ r.D, 0 ≤ b ∧ b ≤ 255 := by
    intro r hr
    simp only [List.mem_append] at hr
    rcases hr with (hr | hr) | hr
    · exact hr1.data r hr
    · exact hr2.data r hr
    · exact hr3.data r hr
  have hb := (msg_back hE hD).2.2
  have hl := (msgE_zero hE).2.2.2.2
  obtain ⟨more, hm⟩ := end_form h qs r1 r2 r3
  have h12 : 12 ≤ (endS h qs r1 r2 r3).1.length := by rw [hm, List.length_append, ahead_len]; omega
  rw [hF] at hb hl h12
  rintro e w' (⟨_, x, c, he, hrow, k⟩ | ⟨k, _⟩)
  · rw [hF] at he hrow
    obtain ⟨g, cap, C, hv, _, _, hby⟩ := rowb_open hrow (by omega) (by omega) hb
    simp only [Value.slice.injEq, true_and] at hv
    obtain ⟨rfl, rfl⟩ := hv
    exact ⟨g, c, he, hby, hby.1, k⟩
  · exact absurd hE k

theorem gw_no {xq x1 x2 x3 : Option Addr} {cq c1 c2 c3 bq : Nat} (h : Hd) (qs : List Qn) (r1 r2 r3 : List Rn) (w : World) (hq : Qs w bq xq cq qs) (hr1 : Rs w bq x1 c1 r1) (hr2 : Rs w bq x2 c2 r2) (hr3 : Rs w bq x3 c3 r3) (hE : ¬ msgE h qs r1 r2 r3 = 0) :
    Calls Try.prog 5 #[.agg #[.int .i64 h.id, .bool h.an, .int .i64 h.op, .bool h.aa, .bool h.tc, .bool h.rd, .bool h.ra, .bool h.z, .bool h.ad, .bool h.cd, .int .i64 h.code, .slice xq qs.length cq, .slice x1 r1.length c1, .slice x2 r2.length c2, .slice x3 r3.length c3]] w fun e w' => ∃ k, e = .returned (.tuple #[.slice none 0 0, .iface 43 (.int .i64 k)]) ∧ Below w.heap.size w w' := by
  refine (mwrite_any h qs r1 r2 r3 w hq hr1 hr2 hr3).mono ?_
  rintro e w' (⟨k, _⟩ | ⟨_, k⟩)
  · exact absurd k hE
  · exact ⟨_, k⟩

set_option maxHeartbeats 4000000 in
set_option maxRecDepth 100000 in
theorem grows_walk {xq x1 x2 x3 y z : Option Addr} {cq c1 c2 c3 s t : Nat} (h : Hd) (qs : List Qn) (r1 r2 r3 : List Rn) (r : Rn) (w : World) (hq : Qs w 0 xq cq qs) (hr1 : Rs w 0 x1 c1 r1) (hr2 : Rs w 0 x2 c2 r2) (hr3 : Rs w 0 x3 c3 r3) (hlr : r3.length * 72 ≤ 140737488351232)
    (hN : Strs w y s r.N) (hD : Bys w z t r.D) (hzt : z = none → t = 0) :
    Calls Try.prog 3 #[.agg #[.int .i64 h.id, .bool h.an, .int .i64 h.op, .bool h.aa, .bool h.tc, .bool h.rd, .bool h.ra, .bool h.z, .bool h.ad, .bool h.cd, .int .i64 h.code, .slice xq qs.length cq, .slice x1 r1.length c1, .slice x2 r2.length c2, .slice x3 r3.length c3], .agg #[.slice y r.N.length s, .int .i64 r.ty, .int .i64 r.cl, .int .i64 r.ttl, .slice z r.D.length t]] w fun e w' => e = .returned (.bool true) ∧ Below w.heap.size w w' := by
  have Q := hid hq
  have R1 := hid hr1
  have R2 := hid hr2
  have R3 := hid hr3
  have HN := hid hN
  have HD := hid hD
  have HZ := hid hzt
  have B0 := ((Below.refl _ w).alloc (Nat.le_refl _) (.cells #[.int .i64 h.id, .bool h.an, .int .i64 h.op, .bool h.aa, .bool h.tc, .bool h.rd, .bool h.ra, .bool h.z, .bool h.ad, .bool h.cd, .int .i64 h.code, .slice xq qs.length cq, .slice x1 r1.length c1, .slice x2 r2.length c2, .slice x3 r3.length c3] 27)).alloc (by simp) (.cells #[.slice y r.N.length s, .int .i64 r.ty, .int .i64 r.cl, .int .i64 r.ttl, .slice z r.D.length t] 31)
  have K0 := (Bl.new 27 w #[.int .i64 h.id, .bool h.an, .int .i64 h.op, .bool h.aa, .bool h.tc, .bool h.rd, .bool h.ra, .bool h.z, .bool h.ad, .bool h.cd, .int .i64 h.code, .slice xq qs.length cq, .slice x1 r1.length c1, .slice x2 r2.length c2, .slice x3 r3.length c3]).below ((Below.refl _ _).alloc (Nat.le_refl _) (.cells #[.slice y r.N.length s, .int .i64 r.ty, .int .i64 r.cl, .int .i64 r.ttl, .slice z r.D.length t] 31))
  have J0 := Bl.new2 31 w (.cells #[.int .i64 h.id, .bool h.an, .int .i64 h.op, .bool h.aa, .bool h.tc, .bool h.rd, .bool h.ra, .bool h.z, .bool h.ad, .bool h.cd, .int .i64 h.code, .slice xq qs.length cq, .slice x1 r1.length c1, .slice x2 r2.length c2, .slice x3 r3.length c3] 27) #[.slice y r.N.length s, .int .i64 r.ty, .int .i64 r.cl, .int .i64 r.ttl, .slice z r.D.length t]
  clear hq hr1 hr2 hr3 hN hD hzt
  go_enter Try.func3, Try.ntmps3
  go_wp2_with fail
  refine (mwrite_empty _).mono ?_
  rintro e w1 ⟨xe, ce, rfl, b1⟩
  have B1 := hid (grown_on B0 b1)
  have K1 := K0.below b1
  have J1 := J0.below b1
  clear b1 B0 K0 J0
  have c0 := K1.cell (i := 0) rfl
  have c1' := K1.cell (i := 1) rfl
  have c2' := K1.cell (i := 2) rfl
  have c3' := K1.cell (i := 3) rfl
  have c4 := K1.cell (i := 4) rfl
  have c5 := K1.cell (i := 5) rfl
  have c6 := K1.cell (i := 6) rfl
  have c7 := K1.cell (i := 7) rfl
  have c8 := K1.cell (i := 8) rfl
  have c9 := K1.cell (i := 9) rfl
  have c10 := K1.cell (i := 10) rfl
  have c11 := K1.cell (i := 11) rfl
  have c12 := K1.cell (i := 12) rfl
  have c13 := K1.cell (i := 13) rfl
  have c14 := K1.cell (i := 14) rfl
  have HK := hid K1
  have HJ := hid J1
  clear K1 J1
  go_upto_region 5 with fail
  have KN := hid (Bl.new 27 w1 #[.int .i64 h.id, .bool h.an, .int .i64 h.op, .bool h.aa, .bool h.tc, .bool h.rd, .bool h.ra, .bool h.z, .bool h.ad, .bool h.cd, .int .i64 h.code, .slice xq qs.length cq, .slice x1 r1.length c1, .slice x2 r2.length c2, .slice x3 r3.length c3])
  have A1 := (Below.refl _ w1).alloc (Nat.le_refl _) (.cells #[.int .i64 h.id, .bool h.an, .int .i64 h.op, .bool h.aa, .bool h.tc, .bool h.rd, .bool h.ra, .bool h.z, .bool h.ad, .bool h.cd, .int .i64 h.code, .slice xq qs.length cq, .slice x1 r1.length c1, .slice x2 r2.length c2, .slice x3 r3.length c3] 27)
  have B5 := hid (grown_on B1.out A1)
  have KM := HK.out.below A1
  have JR := HJ.out.below A1
  have hg1 : w.heap.size + 1 < w1.heap.size := HJ.out.lt
  clear A1 B1 HK HJ c0 c1' c2' c3' c4 c5 c6 c7 c8 c9 c10 c11 c12 c13 c14
  generalize w1.heap.size = g at *
  generalize w1.alloc (.cells #[.int .i64 h.id, .bool h.an, .int .i64 h.op, .bool h.aa, .bool h.tc, .bool h.rd, .bool h.ra, .bool h.z, .bool h.ad, .bool h.cd, .int .i64 h.code, .slice xq qs.length cq, .slice x1 r1.length c1, .slice x2 r2.length c2, .slice x3 r3.length c3] 27) = W5 at *
  have m14 : W5.cell? ⟨w.heap.size, 14, none⟩ = some (.slice x3 r3.length c3) := KM.cell (i := 14) rfl
  have j0 : W5.cell? ⟨w.heap.size + 1, 0, none⟩ = some (.slice y r.N.length s) := JR.cell (i := 0) rfl
  have j1 : W5.cell? ⟨w.heap.size + 1, 1, none⟩ = some (.int .i64 r.ty) := JR.cell (i := 1) rfl
  have j2 : W5.cell? ⟨w.heap.size + 1, 2, none⟩ = some (.int .i64 r.cl) := JR.cell (i := 2) rfl
  have j3 : W5.cell? ⟨w.heap.size + 1, 3, none⟩ = some (.int .i64 r.ttl) := JR.cell (i := 3) rfl
  have j4 : W5.cell? ⟨w.heap.size + 1, 4, none⟩ = some (.slice z r.D.length t) := JR.cell (i := 4) rfl
  have hml : w.heap.size < W5.heap.size := KM.lt
  have hjl : w.heap.size + 1 < W5.heap.size := JR.lt
  have PK : Hid (∀ u, Below W5.heap.size W5 u → u.cell? ⟨w.heap.size, 14, none⟩ = some (.slice x3 r3.length c3) ∧ u.cell? ⟨w.heap.size + 1, 0, none⟩ = some (.slice y r.N.length s) ∧ u.cell? ⟨w.heap.size + 1, 1, none⟩ = some (.int .i64 r.ty) ∧ u.cell? ⟨w.heap.size + 1, 2, none⟩ = some (.int .i64 r.cl) ∧ u.cell? ⟨w.heap.size + 1, 3, none⟩ = some (.int .i64 r.ttl) ∧ u.cell? ⟨w.heap.size + 1, 4, none⟩ = some (.slice z r.D.length t)) :=
    hid (fun u hu => ⟨(hu.cell (p := ⟨w.heap.size, 14, none⟩) hml).trans m14, (hu.cell (p := ⟨w.heap.size + 1, 0, none⟩) hjl).trans j0, (hu.cell (p := ⟨w.heap.size + 1, 1, none⟩) hjl).trans j1, (hu.cell (p := ⟨w.heap.size + 1, 2, none⟩) hjl).trans j2, (hu.cell (p := ⟨w.heap.size + 1, 3, none⟩) hjl).trans j3, (hu.cell (p := ⟨w.heap.size + 1, 4, none⟩) hjl).trans j4⟩)
  have hg0 : w.heap.size ≤ g := by omega
  have hg5 : g < W5.heap.size := KN.out.lt
  have PS : Hid (∀ u v, Below W5.heap.size W5 u → (u.setCell ⟨g, 14, none⟩ v).cell? ⟨w.heap.size, 14, none⟩ = some (.slice x3 r3.length c3) ∧ (u.setCell ⟨g, 14, none⟩ v).cell? ⟨w.heap.size + 1, 0, none⟩ = some (.slice y r.N.length s) ∧ (u.setCell ⟨g, 14, none⟩ v).cell? ⟨w.heap.size + 1, 1, none⟩ = some (.int .i64 r.ty) ∧ (u.setCell ⟨g, 14, none⟩ v).cell? ⟨w.heap.size + 1, 2, none⟩ = some (.int .i64 r.cl) ∧ (u.setCell ⟨g, 14, none⟩ v).cell? ⟨w.heap.size + 1, 3, none⟩ = some (.int .i64 r.ttl) ∧ (u.setCell ⟨g, 14, none⟩ v).cell? ⟨w.heap.size + 1, 4, none⟩ = some (.slice z r.D.length t)) := hid (fun u v hu => by
    have q := PK.out u hu
    have e1 : ¬ w.heap.size = g := by omega
    have e2 : ¬ w.heap.size + 1 = g := by omega
    refine ⟨?_, ?_, ?_, ?_, ?_, ?_⟩ <;> rw [World.cell?_setCell_other _ _ _ _ (by simp only [ne_eq, Addr.mk.injEq, not_and]; intro q; omega)]
    · exact q.1
    · exact q.2.1
    · exact q.2.2.1
    · exact q.2.2.2.1
    · exact q.2.2.2.2.1
    · exact q.2.2.2.2.2)
  have HKM := hid KM
  clear KM JR
  obtain ⟨rs4, hrs4⟩ : ∃ l, l = r3 ++ [r] := ⟨_, rfl⟩
  have HR4 := hid hrs4
  have hl4 : rs4.length = r3.length + 1 := by rw [hrs4, List.length_append]; rfl
  have HL4 := hid hl4
  clear hrs4 hl4
  go_region_held3 (fun u => u.cell? ⟨w.heap.size, 14, none⟩ = some (.slice x3 r3.length c3) ∧ u.cell? ⟨w.heap.size + 1, 0, none⟩ = some (.slice y r.N.length s) ∧ u.cell? ⟨w.heap.size + 1, 1, none⟩ = some (.int .i64 r.ty) ∧ u.cell? ⟨w.heap.size + 1, 2, none⟩ = some (.int .i64 r.cl) ∧ u.cell? ⟨w.heap.size + 1, 3, none⟩ = some (.int .i64 r.ttl) ∧ u.cell? ⟨w.heap.size + 1, 4, none⟩ = some (.slice z r.D.length t))
    (with_reducible (first | assumption | exact PK.out _ (Below.drew (Below.refl _ _)) | exact PK.out _ (alloc1 _ _) | exact PK.out _ (alloc2 _ _ _) | exact PK.out _ HB3 | exact PS.out _ _ HB3 | exact PK.out _ HB2 | exact PK.out _ (Below.alloc HB2 hs2 _)))
    (first
      | (refine step_append_old (wp := w) (w0 := W5) (xs := []) (rs := r3) rfl _ _ rfl _ rfl rfl (void1 w W5) B5.out R3.out (by simp; omega) ?_; intro v1 w2 ar1 hgr1; have HB2 : Below W5.heap.size W5 w2 := ar1.2; have hs2 := HB2.size; have AR := hid ar1; clear ar1 hgr1)
      | (refine step_append_old (wp := w) (w0 := W5) (xs := []) (rs := r3) rfl _ _ rfl _ rfl rfl (void2 w W5 _) B5.out R3.out (by simp; omega) ?_; intro v1 w2 ar1 hgr1; have HB2 : Below W5.heap.size W5 w2 := ar1.2; have hs2 := HB2.size; have JB := hid (keep2 hgr1); have AR := hid ar1; clear ar1 hgr1)
      | (refine step_append_old (wp := w) (w0 := W5) (xs := []) (rs := r3) rfl _ _ rfl _ rfl rfl (void3 w W5 _) B5.out R3.out (by simp; omega) ?_; intro v1 w2 ar1 hgr1; have HB2 : Below W5.heap.size W5 w2 := ar1.2; have hs2 := HB2.size; have JB := hid (keep3 hgr1); have AR := hid ar1; clear ar1 hgr1)
      | (refine step_append_rs (wp := w) (w0 := W5) (xs := r3) (rs := [r]) rfl _ _ rfl _ rfl rfl (AR.out.below ((Below.refl _ _).alloc (Nat.le_refl _) _)) (one_of (Bl.new 31 w2 _) HN.out HD.out HZ.out) (by omega) ?_; intro v2 w3 ar2 hgr2; have HB3 : Below W5.heap.size W5 w3 := ar2.2; have KN3 := KN.out.below HB3; have k14 := KN3.cell (i := 14) rfl; have f14 := KN3.frozen 14; have ar3 : GRow w W5 v2 rs4 w3 := (by rw [HR4.out]; exact ar2); obtain ⟨x4, c4, rfl, R4⟩ := ar3.put B5.out (by rw [HL4.out]; omega) (p := ⟨g, 14, none⟩) hg0 hg5; have HKN3 := hid KN3; have HR := hid R4; clear ar2 ar3 hgr2 KN3 R4)
      | (refine step_append_rs (wp := w) (w0 := W5) (xs := r3) (rs := [r]) rfl _ _ rfl _ rfl rfl AR.out (one_of JB.out HN.out HD.out HZ.out) (by omega) ?_; intro v2 w3 ar2 hgr2; have HB3 : Below W5.heap.size W5 w3 := ar2.2; have KN3 := KN.out.below HB3; have k14 := KN3.cell (i := 14) rfl; have f14 := KN3.frozen 14; have ar3 : GRow w W5 v2 rs4 w3 := (by rw [HR4.out]; exact ar2); obtain ⟨x4, c4, rfl, R4⟩ := ar3.put B5.out (by rw [HL4.out]; omega) (p := ⟨g, 14, none⟩) hg0 hg5; have HKN3 := hid KN3; have HR := hid R4; clear ar2 ar3 hgr2 KN3 R4))
  all_goals as_aux_lemma =>
    have BU := hid (Below.setCell (wp_on B5.out HB3) (show w.heap.size ≤ (⟨g, 14, none⟩ : Addr).block from hg0) (.slice x4 rs4.length c4))
    have KMU := (HKM.out.below HB3).far (p := ⟨g, 14, none⟩) (by simp; omega) (.slice x4 rs4.length c4)
    have KNU : Bl 27 (w3.setCell ⟨g, 14, none⟩ (.slice x4 rs4.length c4)) g #[.int .i64 h.id, .bool h.an, .int .i64 h.op, .bool h.aa, .bool h.tc, .bool h.rd, .bool h.ra, .bool h.z, .bool h.ad, .bool h.cd, .int .i64 h.code, .slice xq qs.length cq, .slice x1 r1.length c1, .slice x2 r2.length c2, .slice x4 rs4.length c4] := by simpa using HKN3.out.set 14 (.slice x4 rs4.length c4)
    have RU := hid (HR.out (.slice x4 rs4.length c4))
    clear HR HKN3 HKM k14 f14 PK PS KN AR HB2 HB3 hs2 m14 j0 j1 j2 j3 j4
    rename_i hold
    clear hold
    generalize w3.setCell ⟨g, 14, none⟩ (.slice x4 rs4.length c4) = U at *
    have c0 := KMU.cell (i := 0) rfl
    have d1 := KMU.cell (i := 1) rfl
    have d2 := KMU.cell (i := 2) rfl
    have d3 := KMU.cell (i := 3) rfl
    have c4 := KMU.cell (i := 4) rfl
    have c5 := KMU.cell (i := 5) rfl
    have c6 := KMU.cell (i := 6) rfl
    have c7 := KMU.cell (i := 7) rfl
    have c8 := KMU.cell (i := 8) rfl
    have c9 := KMU.cell (i := 9) rfl
    have c10 := KMU.cell (i := 10) rfl
    have c11 := KMU.cell (i := 11) rfl
    have c12 := KMU.cell (i := 12) rfl
    have c13 := KMU.cell (i := 13) rfl
    have c14 := KMU.cell (i := 14) rfl
    have HKM := hid KMU
    have HKN := hid KNU
    clear KMU KNU
    go_wp2_with fail
    by_cases hE1 : msgE h qs r1 r2 r3 = 0
    case neg =>
      refine (gw_no h qs r1 r2 r3 _ (Q.out.below BU.out) (R1.out.below BU.out) (R2.out.below BU.out) (R3.out.below BU.out) hE1).mono ?_
      rintro e w6 ⟨k6, rfl, b6⟩
      have B6 := hid (wp_on BU.out b6)
      have KN6 := HKN.out.below b6
      have RU6 := hid (RU.out.below b6)
      have n0 := KN6.cell (i := 0) rfl
      have n1 := KN6.cell (i := 1) rfl
      have n2 := KN6.cell (i := 2) rfl
      have n3 := KN6.cell (i := 3) rfl
      have n4 := KN6.cell (i := 4) rfl
      have n5 := KN6.cell (i := 5) rfl
      have n6 := KN6.cell (i := 6) rfl
      have n7 := KN6.cell (i := 7) rfl
      have n8 := KN6.cell (i := 8) rfl
      have n9 := KN6.cell (i := 9) rfl
      have n10 := KN6.cell (i := 10) rfl
      have n11 := KN6.cell (i := 11) rfl
      have n12 := KN6.cell (i := 12) rfl
      have n13 := KN6.cell (i := 13) rfl
      have n14 := KN6.cell (i := 14) rfl
      clear KN6 b6 c0 d1 d2 d3 c4 c5 c6 c7 c8 c9 c10 c11 c12 c13 c14
      go_wp2_with fail
      by_cases hE2 : msgE h qs r1 r2 rs4 = 0
      · refine (gw_ok h qs r1 r2 rs4 _ _ (Q.out.below B6.out) (R1.out.below B6.out) (R2.out.below B6.out) RU6.out hE2 rfl).mono ?_
        rintro e w7 ⟨g7, c7, rfl, _, _, b7⟩
        have B7 := hid (wp_on B6.out b7)
        clear b7
        generalize (endS h qs r1 r2 rs4).1.length = l7 at *
        go_wp2_with fail
        go_ret
        exact ⟨rfl, B7.out⟩
      · refine (gw_no h qs r1 r2 rs4 _ (Q.out.below B6.out) (R1.out.below B6.out) (R2.out.below B6.out) RU6.out hE2).mono ?_
        rintro e w7 ⟨k7, rfl, b7⟩
        have B7 := hid (wp_on B6.out b7)
        clear b7
        go_wp2_with fail
        go_ret
        exact ⟨rfl, B7.out⟩
    obtain ⟨X, hX⟩ : ∃ F, (endS h qs r1 r2 r3).1 = F := ⟨_, rfl⟩
    refine (gw_ok h qs r1 r2 r3 X _ (Q.out.below BU.out) (R1.out.below BU.out) (R2.out.below BU.out) (R3.out.below BU.out) hE1 hX).mono ?_
    rintro e w6 ⟨ga, ca, rfl, hX6, hca, b6⟩
    have B6 := hid (wp_on BU.out b6)
    have KN6 := HKN.out.below b6
    have KM6 := hid (HKM.out.below b6)
    have RU6 := hid (RU.out.below b6)
    have X6 := hid hX6
    have EX := hid hX
    have E1 := hid hE1
    have n0 := KN6.cell (i := 0) rfl
    have n1 := KN6.cell (i := 1) rfl
    have n2 := KN6.cell (i := 2) rfl
    have n3 := KN6.cell (i := 3) rfl
    have n4 := KN6.cell (i := 4) rfl
    have n5 := KN6.cell (i := 5) rfl
    have n6 := KN6.cell (i := 6) rfl
    have n7 := KN6.cell (i := 7) rfl
    have n8 := KN6.cell (i := 8) rfl
    have n9 := KN6.cell (i := 9) rfl
    have n10 := KN6.cell (i := 10) rfl
    have n11 := KN6.cell (i := 11) rfl
    have n12 := KN6.cell (i := 12) rfl
    have n13 := KN6.cell (i := 13) rfl
    have n14 := KN6.cell (i := 14) rfl
    clear KN6 b6 c0 d1 d2 d3 c4 c5 c6 c7 c8 c9 c10 c11 c12 c13 c14 hX6 hX hE1 HKM HKN BU RU
    go_wp2_with fail
    by_cases hE2 : msgE h qs r1 r2 rs4 = 0
    case neg =>
      refine (gw_no h qs r1 r2 rs4 _ (Q.out.below B6.out) (R1.out.below B6.out) (R2.out.below B6.out) RU6.out hE2).mono ?_
      rintro e w7 ⟨k7, rfl, b7⟩
      have B7 := hid (wp_on B6.out b7)
      clear b7
      generalize X.length = l6 at *
      go_wp2_with fail
      go_ret
      exact ⟨rfl, B7.out⟩
    obtain ⟨Y, hY⟩ : ∃ F, (endS h qs r1 r2 rs4).1 = F := ⟨_, rfl⟩
    refine (gw_ok h qs r1 r2 rs4 Y _ (Q.out.below B6.out) (R1.out.below B6.out) (R2.out.below B6.out) RU6.out hE2 hY).mono ?_
    rintro e w7 ⟨gb, cb, rfl, hY7, hcb, b7⟩
    have B7 := hid (wp_on B6.out b7)
    have KM7 := hid (KM6.out.below b7)
    have X7 := hid (X6.out.below b7)
    have Y7 := hid hY7
    have EY := hid hY
    have E2 := hid hE2
    have GP := grows_parts (h := h) (qs := qs) (r1 := r1) (r2 := r2) (r3 := r3) (r := r)
    rw [← HR4.out, EX.out, EY.out] at GP
    have P1 := hid GP.1
    have P2 := hid GP.2.1
    have hxy : X.length + 11 ≤ Y.length := GP.2.2.1
    have hx12 : 12 ≤ X.length := GP.2.2.2
    have hyl : Y.length ≤ 65535 := by rw [← EY.out]; exact (msgE_zero E2.out).2.2.2.2
    clear GP b7 hY7 hY hE2 B6 KM6 RU6 X6 n0 n1 n2 n3 n4 n5 n6 n7 n8 n9 n10 n11 n12 n13 n14
    obtain ⟨la, hla⟩ : ∃ k, X.length = k := ⟨_, rfl⟩
    obtain ⟨lb, hlb⟩ : ∃ k, Y.length = k := ⟨_, rfl⟩
    rw [hla] at hxy hx12 hca ⊢
    rw [hlb] at hxy hyl hcb ⊢
    have LA := hid hla
    have LB := hid hlb
    clear hla hlb
    have i1 : ¬ (lb : Int) < (la : Int) + 11 := by omega
    go_upto_region 12 with fail
    have CB : Hid (∀ u, Below w7.heap.size w7 u → Calls Try.prog 6 #[.slice (some ⟨ga, 0, none⟩) 10 ca, .slice (some ⟨gb, 0, none⟩) 10 cb] u fun e u' => e = .returned (.bool true) ∧ Below u.heap.size u u') :=
      hid (fun u hu => bytes_at true (X.take 10) (Y.take 10) u ((X7.out.below hu).take 10 (by have := LA.out; omega)) ((Y7.out.below hu).take 10 (by have := LB.out; omega)) (by rw [List.length_take]; have := LA.out; omega) (by rw [List.length_take]; have := LB.out; omega) (by rw [P1.out]; simp))
    have i2 : (10 : Int) ≤ (ca : Int) := by omega
    have i3 : (10 : Int) ≤ (cb : Int) := by omega
    go_region_held3 (fun u => Below w7.heap.size w7 u) (with_reducible (first | assumption | exact Below.drew (Below.refl _ _) | exact HB8))
      (first
        | (go_at_call 6; refine (CB.out _ (Below.drew (Below.refl _ _))).mono ?_; rintro e w8 ⟨rfl, b8⟩; have HB8 : Below w7.heap.size w7 w8 := grown_on (Below.drew (Below.refl _ _)) b8))
    have X8 := hid (X7.out.below HB8)
    have Y8 := hid (Y7.out.below HB8)
    have B8 := hid (wp_on B7.out HB8)
    have KM8 := hid (KM7.out.below HB8)
    have PX : Hid (Nm.cut X 12 (la - 12) = Nm.cut Y 12 (la - 12)) := hid (by
      have p2 := P2.out
      rw [LA.out, List.drop_take] at p2
      unfold Nm.cut
      rw [← p2, p2, List.take_take, Nat.min_self])
    clear b8 HB8 CB i2 i3 X7 Y7 B7 KM7
    go_upto_region 13 with fail
    have XL : Hid ((Nm.cut X 12 (la - 12)).length = la - 12) := hid (by unfold Nm.cut; rw [List.length_take, List.length_drop, LA.out]; omega)
    have YL : Hid ((Nm.cut Y 12 (la - 12)).length = la - 12) := hid (by rw [← PX.out]; exact XL.out)
    have CB : Hid (∀ u, Below w8.heap.size w8 u → Calls Try.prog 6 #[.slice (some ⟨ga, 12, none⟩) (la - 12) (ca - 12), .slice (some ⟨gb, 12, none⟩) (la - 12) (cb - 12)] u fun e u' => e = .returned (.bool true) ∧ Below u.heap.size u u') :=
      hid (fun u hu => bytes_at true (Nm.cut X 12 (la - 12)) (Nm.cut Y 12 (la - 12)) u (by have q := Bys.cut (X8.out.below hu) 12 (la - 12) (by have := LA.out; omega) (by have := LA.out; omega); rw [Nat.zero_add] at q; exact q) (by have q := Bys.cut (Y8.out.below hu) 12 (la - 12) (by have := LB.out; omega) (by have := LB.out; omega); rw [Nat.zero_add] at q; exact q) XL.out YL.out (by rw [PX.out]; simp))
    have CZ : Hid (la = 12 → ∀ u, Below w8.heap.size w8 u → Calls Try.prog 6 #[.slice (some ⟨ga, 0, none⟩) 0 0, .slice (some ⟨gb, 12, none⟩) 0 (cb - 12)] u fun e u' => e = .returned (.bool true) ∧ Below u.heap.size u u') :=
      hid (fun h0 u hu => bytes_at true [] (Nm.cut Y 12 0) u ⟨by simp, by simp, fun b hb => by simp at hb, Or.inl rfl⟩ (by have q := Bys.cut (Y8.out.below hu) 12 0 (by have := LB.out; omega) (by have := LB.out; omega); rw [Nat.zero_add] at q; exact q) rfl (by simp [Nm.cut]) (by simp [Nm.cut]))
    have i4 : (12 : Int) ≤ (la : Int) := by omega
    have i5 : (la : Int) ≤ (ca : Int) := by omega
    have i6 : (la : Int) ≤ (cb : Int) := by omega
    have i7 : ¬ cb = 12 := by omega
    have i8 : (12 : Int) ≤ (ca : Int) := by omega
    have i9 : (12 : Int) ≤ (cb : Int) := by omega
    have HX := hid hx12
    have HXY := hid hxy
    have HCA := hid hca
    clear hx12 hxy hca hcb
    rcases Decidable.em (ca = 12) with hc | hc
    case' inl =>
      have hl12 : la = 12 := by have := HX.out; have := HCA.out; omega
      subst hc
      have CZ2 := hid (CZ.out hl12)
      subst hl12
      clear CZ CB
      go_region_held3 (fun u => Below w8.heap.size w8 u) (with_reducible (first | assumption | exact Below.drew (Below.refl _ _) | exact HB9))
        (first
          | (go_at_call 6; refine (CZ2.out _ (Below.drew (Below.refl _ _))).mono ?_; rintro e w9 ⟨rfl, b9⟩; have HB9 : Below w8.heap.size w8 w9 := grown_on (Below.drew (Below.refl _ _)) b9))
      clear CZ2
    case' inr =>
      clear CZ
      go_region_held3 (fun u => Below w8.heap.size w8 u) (with_reducible (first | assumption | exact Below.drew (Below.refl _ _) | exact HB9))
        (first
          | (go_at_call 6; refine (CB.out _ (Below.drew (Below.refl _ _))).mono ?_; rintro e w9 ⟨rfl, b9⟩; have HB9 : Below w8.heap.size w8 w9 := grown_on (Below.drew (Below.refl _ _)) b9))
      clear CB
    all_goals
      have B9 := hid (wp_on B8.out HB9)
      have KM9 := hid (KM8.out.below HB9)
      have LE := long_all h qs r1 r2 r3
      rw [EX.out, LA.out] at LE
      have HLE := hid LE
      obtain ⟨rs, hrs⟩ : ∃ l, l = r1 ++ r2 ++ r3 := ⟨_, rfl⟩
      rw [← hrs] at LE HLE
      have HRS := hid hrs
      have MZ := hid (msgE_zero E1.out)
      have RE : Hid (∀ r ∈ rs, rE r = 0) := hid (fun r hr => MZ.out.2.2.2.1 r (by rw [← hrs]; exact hr))
      have q65 : qs.length ≤ 65535 := MZ.out.2.1.1
      have rl : rs.length ≤ 196605 := by have q := MZ.out.2.1; rw [hrs, List.length_append, List.length_append]; omega
      clear hrs LE b9 HB9 B8 KM8 X8 Y8 PX XL YL P1 P2 i4 i5 i6 i7 i8 i9
      go_wp2_with fail
      go_loopw [14, 15] (fun va vi wr => ∃ i : Nat, i ≤ qs.length ∧ va = .int .i64 ((12 + longQ (qs.take i) : Nat) : Int) ∧ vi = .int .i64 (i : Int) ∧ Below w9.heap.size w9 wr) (fun _ i _ => qs.length - (intOf i).toNat)
      case atStart => exact ⟨0, Nat.zero_le _, by simp [longQ], rfl, Below.refl _ _⟩
      case round =>
        obtain ⟨i, hi, rfl, rfl, hbel⟩ := hrel
        by_cases ci : i < qs.length
        · have HQ := Q.out.below (wp_on B9.out hbel)
          have m11 := (KM9.out.below hbel).cell (i := 11) rfl
          obtain ⟨b0, o0, yq, sq, exq, hb0, e0, e1, e2, hS⟩ := HQ.at ci
          have hk := (qE_zero (MZ.out.2.2.1 qs[i] (List.getElem_mem ci))).1
          have HT := hid (longQ_next qs i ci)
          have hbt : longQ (qs.take i) ≤ 65535 * 259 := by
            have q := longQ_le (qs.take i) (fun q hq => MZ.out.2.2.1 q (List.mem_of_mem_take hq))
            have q2 : (qs.take i).length ≤ 65535 := by rw [List.length_take]; omega
            omega
          have htt := (check_zero hk).2
          subst exq
          have S1 := hid hS
          have HK1 := hid hk
          have HBL := hid hbel
          generalize qs[i] = q at *
          obtain ⟨tt, htq⟩ : ∃ k, Nm.total (q.N.map Nm.bs) = k := ⟨_, rfl⟩
          rw [htq] at htt HT
          have HTT := hid htq
          clear htq
          generalize longQ (qs.take i) = tq at *
          have ci2 : (i : Int) < (qs.length : Int) := by omega
          clear HQ hS hk hbel
          go_wp2_with fail
          refine (sent_tell q.N tt _ S1.out rfl HK1.out HTT.out).mono ?_
          rintro e w10 ⟨x10, c10, rfl, b10⟩
          have BL := hid (wp_on HBL.out b10)
          clear b10 S1 HBL m11 e0 e1 e2
          go_wp2_with fail
          refine ⟨⟨i + 1, by omega, ?_, by go_num, BL.out⟩, by simp [intOf]; omega⟩
          rw [HT.out]; go_num
        · have ei : i = qs.length := by omega
          subst ei
          have ci2 : ¬ (qs.length : Int) < (qs.length : Int) := by omega
          have KM10 := KM9.out.below hbel
          have B10 := hid (wp_on B9.out hbel)
          have c0 := KM10.cell (i := 0) rfl
          have d1 := KM10.cell (i := 1) rfl
          have d2 := KM10.cell (i := 2) rfl
          have d3 := KM10.cell (i := 3) rfl
          have c4 := KM10.cell (i := 4) rfl
          have c5 := KM10.cell (i := 5) rfl
          have c6 := KM10.cell (i := 6) rfl
          have c7 := KM10.cell (i := 7) rfl
          have c8 := KM10.cell (i := 8) rfl
          have c9 := KM10.cell (i := 9) rfl
          have c10 := KM10.cell (i := 10) rfl
          have c11 := KM10.cell (i := 11) rfl
          have c12 := KM10.cell (i := 12) rfl
          have c13 := KM10.cell (i := 13) rfl
          have c14 := KM10.cell (i := 14) rfl
          have hq2 : longQ (qs.take qs.length) ≤ 65535 * 259 := by
            have q := longQ_le (qs.take qs.length) (fun q hq => MZ.out.2.2.1 q (List.mem_of_mem_take hq))
            have q2 : (qs.take qs.length).length ≤ 65535 := by rw [List.length_take]; omega
            omega
          first | (have HLE2 : Hid (la ≤ 12 + longQ (qs.take qs.length) + longR rs) := hid (by rw [List.take_length]; exact HLE.out)) | skip
          generalize longQ (qs.take qs.length) = tq at *
          clear KM10 hbel
          go_wp2_with fail
          refine (all_any h r1 r2 r3 rs HRS _ (R1.out.below B10.out) (R2.out.below B10.out) (R3.out.below B10.out) (by have := MZ.out.2.1; omega) (by have := MZ.out.2.1; omega) (by have := MZ.out.2.1; omega)).mono ?_
          rintro e w11 ⟨x11, cR, rfl, hR11, b11⟩
          have B11 := hid (wp_on B10.out b11)
          have R11 := hid hR11
          clear b11 hR11 c0 d1 d2 d3 c4 c5 c6 c7 c8 c9 c10 c11 c12 c13 c14 B10
          go_wp2_with fail
          go_loopw [14, 17] (fun va vi wr => ∃ j : Nat, j ≤ rs.length ∧ va = .int .i64 ((12 + tq + longR (rs.take j) : Nat) : Int) ∧ vi = .int .i64 (j : Int) ∧ Below w11.heap.size w11 wr) (fun _ i _ => rs.length - (intOf i).toNat)
          case atStart => exact ⟨0, Nat.zero_le _, by simp [longR], rfl, Below.refl _ _⟩
          case round =>
            obtain ⟨j, hj, rfl, rfl, hbel⟩ := hrel
            have hbt : longR (rs.take j) ≤ 12956269500 := by
              have q := longR_le (rs.take j) (fun q hq => RE.out q (List.mem_of_mem_take hq))
              have q2 : (rs.take j).length ≤ 196605 := by rw [List.length_take]; omega
              exact Nat.le_trans q (Nat.mul_le_mul_right 65900 q2)
            by_cases cj : j < rs.length
            · obtain ⟨b0, o0, yr, sr, zr, tr, exr, hb0, e0, e1, e2, e3, e4, hS, _, _⟩ := (R11.out.below hbel).at cj
              have hz := recE_zero (RE.out rs[j] (List.getElem_mem cj))
              have HT := hid (longR_next rs j cj)
              have htt := (check_zero hz.1).2
              have hdl : rs[j].D.length ≤ 65535 := hz.2.2.2.2
              have HK1 := hid hz.1
              subst exr
              have S1 := hid hS
              have HBL := hid hbel
              clear hz hS hbel e1 e2 e3
              generalize rs[j] = rn at *
              obtain ⟨tt, htq⟩ : ∃ k, Nm.total (rn.N.map Nm.bs) = k := ⟨_, rfl⟩
              rw [htq] at htt HT
              have HTT := hid htq
              clear htq
              generalize longR (rs.take j) = tr2 at *
              have cj2 : (j : Int) < (rs.length : Int) := by omega
              go_wp2_with fail
              have CS : Hid (∀ u, Below wr.heap.size wr u → Calls Try.prog 7 #[.slice yr rn.N.length sr] u fun e u' => ∃ x c, e = .returned (.slice x (tt + 1) c) ∧ Below u.heap.size u u') := hid (fun u hu => sent_tell rn.N tt u (S1.out.below hu) rfl HK1.out HTT.out)
              have PK : Hid (∀ u, Below wr.heap.size wr u → u.cell? ⟨b0, o0 + j * 5, none⟩ = some (.slice yr rn.N.length sr) ∧ u.cell? ⟨b0, o0 + j * 5 + 4, none⟩ = some (.slice zr rn.D.length tr)) := hid (fun u hu => ⟨(hu.cell (p := ⟨b0, o0 + j * 5, none⟩) hb0).trans e0, (hu.cell (p := ⟨b0, o0 + j * 5 + 4, none⟩) hb0).trans e4⟩)
              go_region_held3 (fun u => u.cell? ⟨b0, o0 + j * 5, none⟩ = some (.slice yr rn.N.length sr) ∧ u.cell? ⟨b0, o0 + j * 5 + 4, none⟩ = some (.slice zr rn.D.length tr)) (with_reducible (first | assumption | exact PK.out _ (Below.drew (Below.refl _ _)) | exact PK.out _ HB12))
                (first
                  | (go_at_call 7; refine (CS.out _ (Below.drew (Below.refl _ _))).mono ?_; rintro e w12 ⟨x12, c12, rfl, b12⟩; have HB12 : Below wr.heap.size wr w12 := grown_on (Below.drew (Below.refl _ _)) b12))
              have BL := hid (wp_on HBL.out HB12)
              clear b12 HB12 CS PK e0 e4 S1 HBL
              have n1 : IntKind.i64.wrap ((tt : Int) + 1 + 10) = (tt : Int) + 1 + 10 := Go.IntWalk.i64_in _ (by omega)
              have n2 : IntKind.i64.wrap ((tt : Int) + 1 + 10 + (rn.D.length : Int)) = (tt : Int) + 1 + 10 + (rn.D.length : Int) := Go.IntWalk.i64_in _ (by omega)
              go_wp2_with fail
              refine ⟨⟨j + 1, by omega, ?_, by go_num, BL.out⟩, by simp [intOf]; omega⟩
              rw [HT.out]
              try simp only [n1, n2]
              have n3 : IntKind.i64.wrap (12 + (tq : Int) + (tr2 : Int) + ((tt : Int) + 1 + 10 + (rn.D.length : Int))) = 12 + (tq : Int) + (tr2 : Int) + ((tt : Int) + 1 + 10 + (rn.D.length : Int)) := Go.IntWalk.i64_in _ (by omega)
              try rw [n3]
              first | go_num | (refine congrArg _ ?_; push_cast; omega)
            · have ej : j = rs.length := by omega
              subst ej
              have cj2 : ¬ (rs.length : Int) < (rs.length : Int) := by omega
              first | (have hfin : (la : Int) ≤ ((12 + tq + longR (rs.take rs.length) : Nat) : Int) := by rw [List.take_length]; have := HLE2.out; omega) | (have hfin : (12 : Int) ≤ ((12 + tq + longR (rs.take rs.length) : Nat) : Int) := by omega)
              generalize longR (rs.take rs.length) = tr2 at *
              have BF := hid (wp_on B11.out hbel)
              clear hbel
              first | (have hf2 : (la : Int) ≤ 12 + (tq : Int) + (tr2 : Int) := by omega) | (have hf2 : (12 : Int) ≤ 12 + (tq : Int) + (tr2 : Int) := by omega)
              go_wp2_with fail
              go_ret
              refine ⟨?_, BF.out⟩
              first | rfl | simp [hf2]

end Go.Proofs.Ytjpahieeaojieab
