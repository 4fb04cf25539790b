/-
  Rows of records of the call's own whose parts lie in memory that was there; a record appended to one; contracts of Write with its bytes' block.
-/
import Derived.Test.YtjpahieeaojieabMgAll
import Derived.Test.YtjpahieeaojieabMgBg
import Derived.Test.YtjpahieeaojieabMgFacts
import Derived.Test.YtjpahieeaojieabMsgBytes
namespace Go.Proofs.Ytjpahieeaojieab
open Go.RowKit Go.Deep

/-- A row of the call's own (behind w0) that holds records whose parts lie in memory that was there (wp). -/
def GRow (wp w0 : World) (v : Value) (rs : List Rn) (w : World) : Prop :=
  (∃ L : List (Rn × (Option Addr × Nat) × (Option Addr × Nat)), L.map (·.1) = rs ∧ w.ownsRow w0.heap.size 31 5 v L.length (L.flatMap rcells) ∧ ∀ e ∈ L, Strs wp e.2.1.1 e.2.1.2 e.1.N ∧ Bys wp e.2.2.1 e.2.2.2 e.1.D ∧ (e.2.2.1 = none → e.2.2.2 = 0)) ∧ Below w0.heap.size w0 w

theorem GRow.below {wp w0 w w' : World} {v : Value} {rs : List Rn} (h : GRow wp w0 v rs w) (k : Below w.heap.size w w') : GRow wp w0 v rs w' := by
  obtain ⟨⟨L, h1, h2, h3⟩, hb⟩ := h
  exact ⟨⟨L, h1, owns_stay h2 k, h3⟩, grown_on hb k⟩

theorem owns_far {w : World} {B e n m : Nat} {v : Value} {xs : List Value} (h : w.ownsRow B e m v n xs) {p : Addr} (hp : p.block < B) (u : Value) : (w.setCell p u).ownsRow B e m v n xs := by
  refine h.kept (row := some p.block) ⟨rfl, rfl, rfl, by simp [World.setCell], fun k hk hne => Below.heap_setCell w p u k (fun e => hne (by rw [e]))⟩ ?_
  right
  intro q
  have := (World.ownsRow.lt h _ q).1
  omega

theorem owns_base5 {w : World} {B B' e n m : Nat} {v : Value} {xs : List Value} (h : w.ownsRow B e m v n xs) (k : B' ≤ B) : w.ownsRow B' e m v n xs := by
  obtain ⟨h1, h2⟩ := h
  refine ⟨h1, ?_⟩
  rcases h2 with q | ⟨g, cap, cur, hv, hb, r⟩
  · exact Or.inl q
  · exact Or.inr ⟨g, cap, cur, hv, Nat.le_trans k hb, r⟩

theorem wp_on {w w1 w2 : World} (h : Below w.heap.size w w1) (k : Below w1.heap.size w1 w2) : Below w.heap.size w w2 := h.trans (k.mono h.size)

/-- Such a row, with a cell of a block between the two written. -/
theorem GRow.put {wp w0 w : World} {v : Value} {rs : List Rn} (h : GRow wp w0 v rs w) (hw : Below wp.heap.size wp w0) (hl : rs.length ≤ 4000000000000) {p : Addr} (h1 : wp.heap.size ≤ p.block) (h2 : p.block < w0.heap.size) :
    ∃ x c, v = .slice x rs.length c ∧ ∀ u, Rs (w.setCell p u) 0 x c rs := by
  obtain ⟨⟨L, h3, h4, h5⟩, hb⟩ := h
  have hl' : L.length = rs.length := by rw [← h3, List.length_map]
  have hv : ∃ x c, v = .slice x rs.length c := by
    rcases h4.2 with ⟨e, e2⟩ | ⟨g, cap, cur, e, _⟩
    · exact ⟨none, 0, by rw [e, ← hl', e2]⟩
    · exact ⟨_, _, by rw [e, hl']⟩
  obtain ⟨x, c, hv⟩ := hv
  refine ⟨x, c, hv, fun u => ?_⟩
  have hbb : Below wp.heap.size wp (w.setCell p u) := Below.setCell (wp_on hw hb) h1 u
  have ho := owns_far h4 h2 u
  have hA : ARow wp v rs (w.setCell p u) := ⟨⟨L, h3, owns_base5 ho hw.size, h5⟩, hbb⟩
  obtain ⟨x', c', e, hR⟩ := hA.open hl
  rw [hv] at e
  simp only [Value.slice.injEq, true_and] at e
  obtain ⟨rfl, rfl⟩ := e
  exact hR

/-- Records that lie somewhere, one behind the other, their parts in memory that was there. -/
def RList (w0 w : World) (x : Option Addr) (m : Nat) (rs : List Rn) : Prop :=
  ∃ M : List (Rn × (Option Addr × Nat) × (Option Addr × Nat)), M.length = m ∧ M.map (·.1) = rs ∧ (∀ e ∈ M, Strs w0 e.2.1.1 e.2.1.2 e.1.N ∧ Bys w0 e.2.2.1 e.2.2.2 e.1.D ∧ (e.2.2.1 = none → e.2.2.2 = 0)) ∧
    (M = [] ∨ ∃ b off, x = some ⟨b, off, none⟩ ∧ ∀ j u, (M.flatMap rcells)[j]? = some u → w.cell? ⟨b, off + j, none⟩ = some u)

theorem Rs.rlist {w0 w : World} {bq : Nat} {x : Option Addr} {c : Nat} {rs : List Rn} (h : Rs w0 bq x c rs) (hb : Below w0.heap.size w0 w) : RList w0 w x rs.length rs := by
  obtain ⟨M, hM, hin, hc⟩ := h.list
  refine ⟨M, by rw [← hM, List.length_map], hM, hin, ?_⟩
  rcases hc with q | ⟨b, off, rfl, hlt, hcell⟩
  · left; subst q; exact List.map_eq_nil_iff.1 hM
  · right
    exact ⟨b, off, rfl, fun j u hj => by rw [hb.cell (p := ⟨b, off + j, none⟩) hlt]; exact hcell j u hj⟩

/-- Records appended to a row of the call's own. -/
theorem run_append_g {wp w0 w : World} {xs rs : List Rn} {y : Option Addr} {m c : Nat} (ty : TypeId) (v : Value) (h : GRow wp w0 v xs w) (hr : RList wp w y m rs) (hl : (xs.length + m) * 72 ≤ 140737488355328) :
    ∃ v' w', (Builtin.append_ #[25, 25] ty #[v, .slice y m c]).run Try.prog w = .ok v' w' ∧ GRow wp w0 v' (xs ++ rs) w' ∧ w.grownBy w' v.ownBlock := by
  obtain ⟨i0, hi, hz0, hz1, hz2⟩ := info_of_record
  obtain ⟨⟨L, hL, hown, hin⟩, hb0⟩ := h
  obtain ⟨M, hMl, hM, hMin, hMc⟩ := hr
  have hLl : L.length = xs.length := by rw [← hL, List.length_map]
  rcases hMc with h3 | ⟨b, off, rfl, hcell⟩
  · subst h3
    have hrs : rs = [] := by rw [← hM]; rfl
    have hm0 : m = 0 := by rw [← hMl]; rfl
    subst hrs hm0
    have hv : ∃ base cap, v = .slice base L.length cap ∧ L.length ≤ cap := by
      rcases hown.2 with ⟨e, e2⟩ | ⟨g, cap, cur, e, _, _, hn, _⟩
      · exact ⟨none, 0, by rw [e, e2], by omega⟩
      · exact ⟨_, cap, e, hn⟩
    obtain ⟨base, cap, rfl, hle⟩ := hv
    have hsrc : Src Try.prog i0.size 25 (.slice y 0 c) 0 [] w := by
      cases y with
      | none => exact Src.ofNil w Try.underlying25 c
      | some a => exact Src.ofSlice w Try.underlying25 a 0 c [] (by simp) (fun j u hj => by simp at hj) (fun u hu => by cases hu)
    refine ⟨_, w, run_append_nothing w 25 25 ty 31 i0 Try.underlying25 hi base L.length cap hle _ hsrc, ⟨⟨L, by rw [hL, List.append_nil], hown, hin⟩, hb0⟩, ⟨rfl, rfl, rfl, Nat.le_refl _, fun k _ _ => rfl⟩⟩
  · have hnews : ∀ j u, (M.flatMap rcells)[j]? = some u → w.cell? ((⟨b, off, none⟩ : Addr).add j) = some u := by
      intro j u hj
      rw [Go.WideShapes.add_plain]
      exact hcell j u hj
    have hone : ∀ u ∈ M.flatMap rcells, u.oneCell' = true := by
      intro u hu
      obtain ⟨e, _, hu2⟩ := List.mem_flatMap.1 hu
      simp only [rcells, List.mem_cons, List.not_mem_nil, or_false] at hu2
      rcases hu2 with rfl | rfl | rfl | rfl | rfl <;> rfl
    obtain ⟨v', w', hrun, hown', hg, _, _⟩ := run_append_own_at (P := Try.prog) w w0.heap.size 25 ty 31 i0 (.agg #[.slice none 0 0, .int .i64 0, .int .i64 0, .int .i64 0, .slice none 0 0]) 5 72 Try.underlying25 hi hz0 hz1 hz2 rfl (by decide) v L.length (L.flatMap rcells) hown ⟨b, off, none⟩ m c (M.flatMap rcells) (by rw [flat_len rcells 5 (fun a => rfl), hMl]) hnews hone (by unfold maxLen; omega) (by omega) hb0.size
    refine ⟨v', w', hrun, ⟨⟨L ++ M, by rw [List.map_append, hL, hM], ?_, fun e he => ?_⟩, ?_⟩, hg⟩
    · rw [List.length_append, hMl, List.flatMap_append]
      exact hown'
    · rcases List.mem_append.1 he with he | he
      · exact hin e he
      · exact hMin e he
    · exact hb0.grown hg hb0.size (fun k hk => (World.ownsRow.lt hown k hk).1)

/-- Records appended to a row of the call's own, as a step of a region. -/
theorem step_append_rs {wp w0 w : World} {xs rs : List Rn} {y : Option Addr} {m c : Nat} {ops : Array Oper} {o : Oper} {a : Act} {K : Act → World → Prop} {Q : Exit → Act → World → Prop} {E : Prop} (hgd : o.guard = none) (sl x : Operand)
    (ho : o.op = .call { callee := .builtin .append, args := #[sl, x], argTypes := #[25, 25] }) (v : Value) (hs : a.eval sl = v) (hx : a.eval x = .slice y m c) (h : GRow wp w0 v xs w) (hr : RList wp w y m rs) (hl : (xs.length + m) * 72 ≤ 140737488355328)
    (hK : ∀ v' w', GRow wp w0 v' (xs ++ rs) w' → w.grownBy w' v.ownBlock → K (a.put o.dst v') w') :
    if Region.wanted o (yielded ops a.tmps) = true then Oper.wp Try.prog o a w K Q else E := by
  have hw : Region.wanted o (yielded ops a.tmps) = true := by simp [Region.wanted, hgd]
  rw [if_pos hw]
  obtain ⟨v', w', hrun, har, hg⟩ := run_append_g (c := c) o.type v h hr hl
  unfold Oper.wp execOp
  simp only [ho, resolve, invoke, builtin, Sem.run_bind, Sem.run_pure, Result.andThen_ok, List.map_toArray, List.map_cons, List.map_nil, hs, hx, hrun]
  exact hK v' w' har hg

theorem wpList_append_g {wp w0 w : World} {bq : Nat} {xs rs : List Rn} {y : Option Addr} {c : Nat} {ops : Array Oper} {rest : List Oper} {o : Oper} {a : Act} {Q : Exit → Act → World → Prop} (hgd : o.guard = none) (sl x : Operand)
    (ho : o.op = .call { callee := .builtin .append, args := #[sl, x], argTypes := #[25, 25] }) (v : Value) (hs : a.eval sl = v) (hx : a.eval x = .slice y rs.length c) (h : GRow wp w0 v xs w) (hw : Below wp.heap.size wp w0) (hr : Rs wp bq y c rs) (hl : (xs.length + rs.length) * 72 ≤ 140737488355328)
    (hK : ∀ v' w', GRow wp w0 v' (xs ++ rs) w' → wpList Try.prog ops Q rest (a.put o.dst v') w') : wpList Try.prog ops Q (o :: rest) a w := by
  refine wpList_plain hgd fun K hK' => ?_
  obtain ⟨v', w', hrun, har, _⟩ := run_append_g (c := c) o.type v h (hr.rlist (wp_on hw h.2)) hl
  unfold Oper.wp execOp
  simp only [ho, resolve, invoke, builtin, Sem.run_bind, Sem.run_pure, Result.andThen_ok, List.map_toArray, List.map_cons, List.map_nil, hs, hx, hrun]
  exact hK' _ _ (hK v' w' har)

/-- A row that was just made, and holds nothing. -/
theorem arow_void {wp w0 u : World} {b : Nat} (hB : Below w0.heap.size w0 u) (hu : u.ownsRow w0.heap.size 31 5 (.slice (some ⟨b, 0, none⟩) 0 0) 0 []) : GRow wp w0 (.slice (some ⟨b, 0, none⟩) 0 0) [] u :=
  ⟨⟨[], rfl, hu, fun e he => by simp at he⟩, hB⟩

theorem void1 (wp w : World) : GRow wp w (.slice (some ⟨w.heap.size, 0, none⟩) 0 0) [] (w.drew.alloc (.cells #[] 31)) :=
  arow_void ((Below.drew (Below.refl _ w)).alloc (Nat.le_refl _) _) (World.ownsRow_made w.drew #[] 0 (Nat.le_refl _) (by decide) (by simp))

theorem void2 (wp w : World) (o : Obj) : GRow wp w (.slice (some ⟨w.heap.size, 0, none⟩) 0 0) [] ((w.drew.alloc (.cells #[] 31)).alloc o) :=
  (void1 wp w).below ((Below.refl _ _).alloc (Nat.le_refl _) _)

theorem void3 (wp w : World) (o : Obj) : GRow wp w (.slice (some ⟨w.heap.size + 1, 0, none⟩) 0 0) [] ((w.drew.alloc o).alloc (.cells #[] 31)) := by
  have hs : (w.drew.alloc o).heap.size = w.heap.size + 1 := by simp
  have h := World.ownsRow_made (base := w.heap.size) (e := 31) (size := 5) (w.drew.alloc o) #[] 0 (by simp) (by decide) (by simp)
  rw [hs] at h
  exact arow_void (((Below.drew (Below.refl _ w)).alloc (Nat.le_refl _) _).alloc (by simp) _) h

theorem step_append_old {wp w0 w : World} {bq : Nat} {xs rs : List Rn} {y : Option Addr} {c : Nat} {ops : Array Oper} {o : Oper} {a : Act} {K : Act → World → Prop} {Q : Exit → Act → World → Prop} {E : Prop} (hgd : o.guard = none) (sl x : Operand)
    (ho : o.op = .call { callee := .builtin .append, args := #[sl, x], argTypes := #[25, 25] }) (v : Value) (hs : a.eval sl = v) (hx : a.eval x = .slice y rs.length c) (h : GRow wp w0 v xs w) (hw : Below wp.heap.size wp w0) (hr : Rs wp bq y c rs) (hl : (xs.length + rs.length) * 72 ≤ 140737488355328)
    (hK : ∀ v' w', GRow wp w0 v' (xs ++ rs) w' → w.grownBy w' v.ownBlock → K (a.put o.dst v') w') :
    if Region.wanted o (yielded ops a.tmps) = true then Oper.wp Try.prog o a w K Q else E := step_append_rs hgd sl x ho v hs hx h (hr.rlist (wp_on hw h.2)) hl hK

theorem alloc1 (w : World) (o : Obj) : Below w.heap.size w (w.drew.alloc o) := (Below.drew (Below.refl _ w)).alloc (Nat.le_refl _) _

theorem alloc2 (w : World) (o o' : Obj) : Below w.heap.size w ((w.drew.alloc o).alloc o') := (alloc1 w o).alloc (by simp) _

theorem keep2 {w w2 : World} {o : Obj} {C : Array Value} (h : ((w.drew.alloc o).alloc (.cells C 31)).grownBy w2 (some w.heap.size)) : Bl 31 w2 (w.heap.size + 1) C := by
  have k := Bl.new2 31 w.drew o C
  unfold Bl at k ⊢
  rw [h.block (w.heap.size + 1) (by simp) (by simp)]
  exact k

theorem keep3 {w w2 : World} {o : Obj} {C : Array Value} (h : ((w.drew.alloc (.cells C 31)).alloc o).grownBy w2 (some (w.heap.size + 1))) : Bl 31 w2 w.heap.size C := by
  have k := (Bl.new 31 w.drew C).below ((Below.refl _ _).alloc (Nat.le_refl _) o)
  unfold Bl at k ⊢
  rw [h.block w.heap.size (by simp; omega) (by simp)]
  exact k

theorem one_of {w0 u : World} {b : Nat} {y z : Option Addr} {s t : Nat} {r : Rn} (k : Bl 31 u b #[.slice y r.N.length s, .int .i64 r.ty, .int .i64 r.cl, .int .i64 r.ttl, .slice z r.D.length t]) (hN : Strs w0 y s r.N) (hD : Bys w0 z t r.D) (hz : z = none → t = 0) : RList w0 u (some ⟨b, 0, none⟩) 1 [r] := by
  refine ⟨[(r, (y, s), (z, t))], rfl, rfl, fun e he => ?_, Or.inr ⟨b, 0, rfl, fun j v hj => ?_⟩⟩
  · rw [List.mem_singleton] at he
    subst he
    exact ⟨hN, hD, hz⟩
  · rw [Nat.zero_add]
    refine k.cell (i := j) ?_
    rw [List.getElem?_toArray]
    simpa [rcells] using hj

theorem longR_le (rs : List Rn) (h : ∀ r ∈ rs, rE r = 0) : longR rs ≤ rs.length * 65900 := by
  induction rs with
  | nil => simp [longR]
  | cons r rs ih =>
    have h1 := ih (fun x hx => h x (List.mem_cons_of_mem _ hx))
    have h4 := recE_zero (h r List.mem_cons_self)
    have h2 := (check_zero h4.1).2
    have h3 : longR (r :: rs) = Nm.total (r.N.map Nm.bs) + 1 + 10 + r.D.length + longR rs := by simp [longR]
    have h5 := h4.2.2.2.2
    rw [List.length_cons]; omega

theorem Bys.cut {w : World} {b o c : Nat} {ms : List Int} (h : Bys w (some ⟨b, o, none⟩) c ms) (i k : Nat) (hp : 0 < ms.length) (hik : i + k ≤ ms.length) : Bys w (some ⟨b, o + i, none⟩) (c - i) (Nm.cut ms i k) := by
  obtain ⟨h1, h2, h3, h4⟩ := h
  rcases h4 with q | ⟨b', o', e, hb, q⟩
  · rw [q] at hp; simp at hp
  · cases e
    exact bys_sub hb h1 h2 h3 q i k hik

theorem sent_tell {y : Option Addr} {d l : Nat} (n : List ByteArray) (tt : Nat) (w : World) (hn : Strs w y d n) (hl : n.length = l) (hk : Nm.checkN (n.map Nm.bs) = 0) (ht : Nm.total (n.map Nm.bs) = tt) :
    Calls Try.prog 7 #[.slice y l d] w fun e w' => ∃ x c, e = .returned (.slice x (tt + 1) c) ∧ Below w.heap.size w w' := by
  subst ht
  refine (sent_any n w hn hl hk).mono ?_
  rintro e w' ⟨x, c, he, _, hb⟩
  exact ⟨x, c, he, hb⟩

theorem gw_ok {xq x1 x2 x3 : Option Addr} {cq c1 c2 c3 bq : Nat} (h : Hd) (qs : List Qn) (r1 r2 r3 : List Rn) (F : List Int) (w : World) (hq : Qs w bq xq cq qs) (hr1 : Rs w bq x1 c1 r1) (hr2 : Rs w bq x2 c2 r2) (hr3 : Rs w bq x3 c3 r3) (hE : msgE h qs r1 r2 r3 = 0) (hF : (endS h qs r1 r2 r3).1 = F) :
    Calls Try.prog 5 #[.agg #[.int .i64 h.id, .bool h.an, .int .i64 h.op, .bool h.aa, .bool h.tc, .bool h.rd, .bool h.ra, .bool h.z, .bool h.ad, .bool h.cd, .int .i64 h.code, .slice xq qs.length cq, .slice x1 r1.length c1, .slice x2 r2.length c2, .slice x3 r3.length c3]] w fun e w' => ∃ g c, e = .returned (.tuple #[.slice (some ⟨g, 0, none⟩) F.length c, .nilIface]) ∧ Bys w' (some ⟨g, 0, none⟩) c F ∧ F.length ≤ c ∧ Below w.heap.size w w' := by
  refine (mwrite_any h qs r1 r2 r3 w hq hr1 hr2 hr3).mono ?_
  have hD : ∀ r ∈ r1 ++ r2 ++ r3, ∀ b ∈ r.D, 0 ≤ b ∧ b ≤ 255 := by
    intro r hr
    simp only [List.mem_append] at hr
    rcases hr with (hr | hr) | hr
    · exact hr1.data r hr
    · exact hr2.data r hr
    · exact hr3.data r hr
  have hb := (msg_back hE hD).2.2
  have hl := (msgE_zero hE).2.2.2.2
  obtain ⟨more, hm⟩ := end_form h qs r1 r2 r3
  have h12 : 12 ≤ (endS h qs r1 r2 r3).1.length := by rw [hm, List.length_append, ahead_len]; omega
  rw [hF] at hb hl h12
  rintro e w' (⟨_, x, c, he, hrow, k⟩ | ⟨k, _⟩)
  · rw [hF] at he hrow
    obtain ⟨g, cap, C, hv, _, _, hby⟩ := rowb_open hrow (by omega) (by omega) hb
    simp only [Value.slice.injEq, true_and] at hv
    obtain ⟨rfl, rfl⟩ := hv
    exact ⟨g, c, he, hby, hby.1, k⟩
  · exact absurd hE k

theorem gw_no {xq x1 x2 x3 : Option Addr} {cq c1 c2 c3 bq : Nat} (h : Hd) (qs : List Qn) (r1 r2 r3 : List Rn) (w : World) (hq : Qs w bq xq cq qs) (hr1 : Rs w bq x1 c1 r1) (hr2 : Rs w bq x2 c2 r2) (hr3 : Rs w bq x3 c3 r3) (hE : ¬ msgE h qs r1 r2 r3 = 0) :
    Calls Try.prog 5 #[.agg #[.int .i64 h.id, .bool h.an, .int .i64 h.op, .bool h.aa, .bool h.tc, .bool h.rd, .bool h.ra, .bool h.z, .bool h.ad, .bool h.cd, .int .i64 h.code, .slice xq qs.length cq, .slice x1 r1.length c1, .slice x2 r2.length c2, .slice x3 r3.length c3]] w fun e w' => ∃ k, e = .returned (.tuple #[.slice none 0 0, .iface 43 (.int .i64 k)]) ∧ Below w.heap.size w w' := by
  refine (mwrite_any h qs r1 r2 r3 w hq hr1 hr2 hr3).mono ?_
  rintro e w' (⟨k, _⟩ | ⟨_, k⟩)
  · exact absurd k hE
  · exact ⟨_, k⟩

end Go.Proofs.Ytjpahieeaojieab
