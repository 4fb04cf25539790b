/-
  The walks of All and Sent of package pointsmanref1: all records of a message in one list; a name as it is sent.
-/
import Derived.Test.YtbbgabdiikdjpaaDoorMgWrite
import Derived.Deep.Upon
import Derived.Maps.AppendAt
import Derived.Laws.IdiomStrings
namespace Go.Proofs.YtbbgabdiikdjpaaDoor
open Go.RowKit Go.Deep

/-- A row of the call's own that holds records whose parts lie in memory that was there. -/
def ARow (w0 : World) (v : Value) (rs : List Rn) (w : World) : Prop :=
  (∃ L : List (Rn × (Option Addr × Nat) × (Option Addr × Nat)), L.map (·.1) = rs ∧ w.ownsRow w0.heap.size 67 5 v L.length (L.flatMap rcells) ∧ ∀ e ∈ L, Strs w0 e.2.1.1 e.2.1.2 e.1.N ∧ Bys w0 e.2.2.1 e.2.2.2 e.1.D ∧ (e.2.2.1 = none → e.2.2.2 = 0)) ∧ Below w0.heap.size w0 w

theorem ARow.open {w0 w : World} {v : Value} {rs : List Rn} (h : ARow w0 v rs w) (hl : rs.length ≤ 4000000000000) : ∃ x c, v = .slice x rs.length c ∧ Rs w 0 x c rs := by
  obtain ⟨⟨L, rfl, h2, h3⟩, hb⟩ := h
  rw [List.length_map] at hl ⊢
  have hc := fun (g : Nat) (hg : v.ownBlock = some g) => h2.cells hg
  rcases h2.2 with ⟨rfl, h4⟩ | ⟨g, cap, cur, rfl, hg, hh, hn, _⟩
  · have : L = [] := List.length_eq_zero_iff.1 h4
    subst this
    exact ⟨none, 0, rfl, Rs.nil w 0 none 0⟩
  · refine ⟨_, cap, rfl, by rw [List.length_map]; exact hn, by rw [List.length_map]; exact hl, Or.inr ⟨g, 0, rfl, ?_, Nat.zero_le _, fun i hi => ?_⟩⟩
    · rcases Nat.lt_or_ge g w.heap.size with q | q
      · exact q
      · rw [Array.getElem?_eq_none q] at hh; simp at hh
    · rw [List.length_map] at hi
      have hf : ∀ a, (rcells a).length = 5 := fun a => rfl
      have c0 := hc g rfl (i * 5 + 0) _ (flat_get rcells 5 hf L i 0 hi (by decide))
      have c1 := hc g rfl (i * 5 + 1) _ (flat_get rcells 5 hf L i 1 hi (by decide))
      have c2 := hc g rfl (i * 5 + 2) _ (flat_get rcells 5 hf L i 2 hi (by decide))
      have c3 := hc g rfl (i * 5 + 3) _ (flat_get rcells 5 hf L i 3 hi (by decide))
      have c4 := hc g rfl (i * 5 + 4) _ (flat_get rcells 5 hf L i 4 hi (by decide))
      obtain ⟨k1, k3, k4⟩ := h3 L[i] (List.getElem_mem hi)
      rw [List.getElem_map]
      simp only [Go.WideShapes.add_plain, Nat.zero_add, Nat.add_zero] at c0 c1 c2 c3 c4
      rw [Nat.zero_add]
      exact ⟨L[i].2.1.1, L[i].2.1.2, L[i].2.2.1, L[i].2.2.2, c0, c1, c2, c3, c4, k1.below hb, k3.below hb, k4, fun a _ => Nat.zero_le _, fun a _ => Nat.zero_le _⟩

theorem list_pick {α β : Type} {P : Nat → α → β → Prop} : ∀ (l : List α), (∀ i (h : i < l.length), ∃ y, P i l[i] y) → ∃ L : List (α × β), L.map (·.1) = l ∧ ∀ i (h : i < L.length), P i L[i].1 L[i].2 := by
  intro l
  suffices H : ∀ (l : List α) (k : Nat), (∀ i (h : i < l.length), ∃ y, P (k + i) l[i] y) → ∃ L : List (α × β), L.map (·.1) = l ∧ ∀ i (h : i < L.length), P (k + i) L[i].1 L[i].2 by
    intro h
    obtain ⟨L, h1, h2⟩ := H l 0 (fun i hi => by rw [Nat.zero_add]; exact h i hi)
    exact ⟨L, h1, fun i hi => by have := h2 i hi; rw [Nat.zero_add] at this; exact this⟩
  intro l
  induction l with
  | nil => intro k _; exact ⟨[], rfl, fun i h => by simp at h⟩
  | cons x xs ih =>
    intro k h
    obtain ⟨y, hy⟩ := h 0 (by simp)
    obtain ⟨L, h1, h2⟩ := ih (k + 1) (fun i hi => by
      obtain ⟨y, hy⟩ := h (i + 1) (by simpa using hi)
      refine ⟨y, ?_⟩
      have e : k + 1 + i = k + (i + 1) := by omega
      rw [e]
      simpa using hy)
    refine ⟨(x, y) :: L, by simp [h1], fun i hi => ?_⟩
    cases i with
    | zero => simpa using hy
    | succ i =>
      have := h2 i (by simpa using hi)
      have e : k + 1 + i = k + (i + 1) := by omega
      rw [e] at this
      simpa using this

/-- The records of a slice, with where their parts lie. -/
theorem Rs.list {w : World} {bq : Nat} {x : Option Addr} {c : Nat} {rs : List Rn} (h : Rs w bq x c rs) : ∃ L : List (Rn × (Option Addr × Nat) × (Option Addr × Nat)), L.map (·.1) = rs ∧ (∀ e ∈ L, Strs w e.2.1.1 e.2.1.2 e.1.N ∧ Bys w e.2.2.1 e.2.2.2 e.1.D ∧ (e.2.2.1 = none → e.2.2.2 = 0)) ∧
    (rs = [] ∨ ∃ b off, x = some ⟨b, off, none⟩ ∧ b < w.heap.size ∧ ∀ j u, (L.flatMap rcells)[j]? = some u → w.cell? ⟨b, off + j, none⟩ = some u) := by
  rcases h.2.2 with h3 | ⟨b, off, hx, hb, _, hc⟩
  · subst h3
    exact ⟨[], rfl, fun e he => by simp at he, Or.inl rfl⟩
  · obtain ⟨L, h1, h2⟩ := list_pick (P := fun i (r : Rn) (y : (Option Addr × Nat) × (Option Addr × Nat)) => w.cell? ⟨b, off + i * 5, none⟩ = some (.slice y.1.1 r.N.length y.1.2) ∧ w.cell? ⟨b, off + i * 5 + 1, none⟩ = some (.int .i64 r.ty) ∧ w.cell? ⟨b, off + i * 5 + 2, none⟩ = some (.int .i64 r.cl) ∧ w.cell? ⟨b, off + i * 5 + 3, none⟩ = some (.int .i64 r.ttl) ∧ w.cell? ⟨b, off + i * 5 + 4, none⟩ = some (.slice y.2.1 r.D.length y.2.2) ∧ Strs w y.1.1 y.1.2 r.N ∧ Bys w y.2.1 y.2.2 r.D ∧ (y.2.1 = none → y.2.2 = 0)) rs (fun i hi => by
      obtain ⟨y, s, z, t, k1, k2, k3, k4, k5, k6, k7, k8, _⟩ := hc i hi
      exact ⟨((y, s), (z, t)), k1, k2, k3, k4, k5, k6, k7, k8⟩)
    refine ⟨L, h1, fun e he => ?_, Or.inr ⟨b, off, hx, hb, fun j u hj => ?_⟩⟩
    · obtain ⟨i, hi, rfl⟩ := List.mem_iff_getElem.1 he
      obtain ⟨_, _, _, _, _, k6, k7, k8⟩ := h2 i hi
      exact ⟨k6, k7, k8⟩
    · have hf : ∀ a, (rcells a).length = 5 := fun a => rfl
      have hjl : j < (L.flatMap rcells).length := by
        rcases Nat.lt_or_ge j (L.flatMap rcells).length with q | q
        · exact q
        · rw [List.getElem?_eq_none q] at hj; cases hj
      rw [flat_len rcells 5 hf] at hjl
      have hi : j / 5 < L.length := by omega
      have hm : j % 5 < 5 := by omega
      have ej : j = j / 5 * 5 + j % 5 := by omega
      rw [ej, flat_get rcells 5 hf L (j / 5) (j % 5) hi hm] at hj
      obtain ⟨k0, k1, k2, k3, k4, _⟩ := h2 (j / 5) hi
      rw [ej, ← Nat.add_assoc]
      have hcs : j % 5 = 0 ∨ j % 5 = 1 ∨ j % 5 = 2 ∨ j % 5 = 3 ∨ j % 5 = 4 := by omega
      rcases hcs with q | q | q | q | q <;> rw [q] at hj ⊢
      · rw [Nat.add_zero, k0]; exact hj
      · rw [k1]; exact hj
      · rw [k2]; exact hj
      · rw [k3]; exact hj
      · rw [k4]; exact hj

/-- Records appended to a row of the call's own. -/
theorem run_append_rs {w0 w : World} {bq : Nat} {v : Value} {xs rs : List Rn} {x : Option Addr} {c : Nat} (ty : TypeId) (h : ARow w0 v xs w) (hr : Rs w0 bq x c rs) (hl : xs.length + rs.length ≤ 1900000000000) :
    ∃ v' w', (Builtin.append_ #[26, 26] ty #[v, .slice x rs.length c]).run Tryd.prog w = .ok v' w' ∧ ARow w0 v' (xs ++ rs) w' := by
  obtain ⟨i0, hi, hz0, hz1, hz2⟩ := info_of_record
  obtain ⟨⟨L, hL, hown, hin⟩, hb0⟩ := h
  obtain ⟨M, hM, hMin, hMc⟩ := hr.list
  have hLl : L.length = xs.length := by rw [← hL, List.length_map]
  have hMl : M.length = rs.length := by rw [← hM, List.length_map]
  rcases hMc with h3 | ⟨b, off, rfl, hblt, hcell⟩
  · subst h3
    have hv : ∃ base cap, v = .slice base L.length cap ∧ L.length ≤ cap := by
      rcases hown.2 with ⟨e, e2⟩ | ⟨g, cap, cur, e, _, _, hn, _⟩
      · exact ⟨none, 0, by rw [e, e2], by omega⟩
      · exact ⟨_, cap, e, hn⟩
    obtain ⟨base, cap, rfl, hle⟩ := hv
    have hsrc : Src Tryd.prog i0.size 26 (.slice x ([] : List Rn).length c) 0 [] w := by
      cases x with
      | none => exact Src.ofNil w Tryd.underlying26 c
      | some a => exact Src.ofSlice w Tryd.underlying26 a 0 c [] (by simp) (fun j u hj => by simp at hj) (fun u hu => by cases hu)
    refine ⟨_, w, run_append_nothing w 26 26 ty 67 i0 Tryd.underlying26 hi base L.length cap hle _ hsrc, ⟨L, by rw [hL, List.append_nil], hown, hin⟩, hb0⟩
  · have hnews : ∀ j u, (M.flatMap rcells)[j]? = some u → w.cell? ((⟨b, off, none⟩ : Addr).add j) = some u := by
      intro j u hj
      rw [Go.WideShapes.add_plain, hb0.cell (p := ⟨b, off + j, none⟩) hblt]
      exact hcell j u hj
    have hone : ∀ u ∈ M.flatMap rcells, u.oneCell' = true := by
      intro u hu
      obtain ⟨e, _, hu2⟩ := List.mem_flatMap.1 hu
      simp only [rcells, List.mem_cons, List.not_mem_nil, or_false] at hu2
      rcases hu2 with rfl | rfl | rfl | rfl | rfl <;> rfl
    obtain ⟨v', w', hrun, hown', hg, _, _⟩ := run_append_own_at (P := Tryd.prog) w w0.heap.size 26 ty 67 i0 (.agg #[.slice none 0 0, .int .i64 0, .int .i64 0, .int .i64 0, .slice none 0 0]) 5 72 Tryd.underlying26 hi hz0 hz1 hz2 rfl (by decide) v L.length (L.flatMap rcells) hown ⟨b, off, none⟩ rs.length c (M.flatMap rcells) (by rw [flat_len rcells 5 (fun a => rfl), hMl]) hnews hone (by unfold maxLen; omega) (by omega) hb0.size
    refine ⟨v', w', hrun, ⟨L ++ M, by rw [List.map_append, hL, hM], ?_, fun e he => ?_⟩, ?_⟩
    · rw [List.length_append, hMl, List.flatMap_append]
      exact hown'
    · rcases List.mem_append.1 he with he | he
      · exact hin e he
      · exact hMin e he
    · exact hb0.grown hg hb0.size (fun k hk => (World.ownsRow.lt hown k hk).1)

theorem wpList_append_rs {w0 w : World} {bq : Nat} {xs rs : List Rn} {y : Option Addr} {c : Nat} {ops : Array Oper} {rest : List Oper} {o : Oper} {a : Act} {Q : Exit → Act → World → Prop} (hgd : o.guard = none) (sl x : Operand)
    (ho : o.op = .call { callee := .builtin .append, args := #[sl, x], argTypes := #[26, 26] }) (v : Value) (hs : a.eval sl = v) (hx : a.eval x = .slice y rs.length c) (h : ARow w0 v xs w) (hr : Rs w0 bq y c rs) (hl : xs.length + rs.length ≤ 1900000000000)
    (hK : ∀ v' w', ARow w0 v' (xs ++ rs) w' → wpList Tryd.prog ops Q rest (a.put o.dst v') w') : wpList Tryd.prog ops Q (o :: rest) a w := by
  refine wpList_plain hgd fun K hK' => ?_
  obtain ⟨v', w', hrun, har⟩ := run_append_rs o.type h hr hl
  unfold Oper.wp execOp
  simp only [ho, resolve, invoke, builtin, Sem.run_bind, Sem.run_pure, Result.andThen_ok, List.map_toArray, List.map_cons, List.map_nil, hs, hx, hrun]
  exact hK' _ _ (hK v' w' har)

theorem ARow.below {w0 w w' : World} {v : Value} {rs : List Rn} (h : ARow w0 v rs w) (k : Below w.heap.size w w') : ARow w0 v rs w' := by
  obtain ⟨⟨L, h1, h2, h3⟩, hb⟩ := h
  exact ⟨⟨L, h1, owns_stay h2 k, h3⟩, grown_on hb k⟩

set_option maxHeartbeats 1000000 in
set_option maxRecDepth 100000 in
theorem all_any {xq x1 x2 x3 : Option Addr} {lq cq c1 c2 c3 bq : Nat} (h : Hd) (r1 r2 r3 rs : List Rn) (hrs : Hid (rs = r1 ++ r2 ++ r3)) (w : World) (hr1 : Rs w bq x1 c1 r1) (hr2 : Rs w bq x2 c2 r2) (hr3 : Rs w bq x3 c3 r3) (b1 : r1.length ≤ 600000000000) (b2 : r2.length ≤ 600000000000) (b3 : r3.length ≤ 600000000000) :
    Calls Tryd.prog 41 #[.agg #[.int .i64 h.id, .bool h.an, .int .i64 h.op, .bool h.aa, .bool h.tc, .bool h.rd, .bool h.ra, .bool h.z, .bool h.ad, .bool h.cd, .int .i64 h.code, .slice xq lq cq, .slice x1 r1.length c1, .slice x2 r2.length c2, .slice x3 r3.length c3]] w fun e w' => ∃ x c, e = .returned (.slice x rs.length c) ∧ Rs w' 0 x c rs ∧ Below w.heap.size w w' := by
  have BA : Below w.heap.size w (w.alloc (.cells #[.int .i64 h.id, .bool h.an, .int .i64 h.op, .bool h.aa, .bool h.tc, .bool h.rd, .bool h.ra, .bool h.z, .bool h.ad, .bool h.cd, .int .i64 h.code, .slice xq lq cq, .slice x1 r1.length c1, .slice x2 r2.length c2, .slice x3 r3.length c3] 28)) := (Below.refl _ w).alloc (Nat.le_refl _) _
  have A0 : Hid (ARow (w.alloc (.cells #[.int .i64 h.id, .bool h.an, .int .i64 h.op, .bool h.aa, .bool h.tc, .bool h.rd, .bool h.ra, .bool h.z, .bool h.ad, .bool h.cd, .int .i64 h.code, .slice xq lq cq, .slice x1 r1.length c1, .slice x2 r2.length c2, .slice x3 r3.length c3] 28)) (.slice none 0 0) [] (w.alloc (.cells #[.int .i64 h.id, .bool h.an, .int .i64 h.op, .bool h.aa, .bool h.tc, .bool h.rd, .bool h.ra, .bool h.z, .bool h.ad, .bool h.cd, .int .i64 h.code, .slice xq lq cq, .slice x1 r1.length c1, .slice x2 r2.length c2, .slice x3 r3.length c3] 28))) := hid ⟨⟨[], rfl, World.ownsRow_nil _ _ _ _, fun e he => by simp at he⟩, Below.refl _ _⟩
  have K0 := Bl.new 28 w #[.int .i64 h.id, .bool h.an, .int .i64 h.op, .bool h.aa, .bool h.tc, .bool h.rd, .bool h.ra, .bool h.z, .bool h.ad, .bool h.cd, .int .i64 h.code, .slice xq lq cq, .slice x1 r1.length c1, .slice x2 r2.length c2, .slice x3 r3.length c3]
  have H1 := hid (hr1.below BA)
  have H2 := hid (hr2.below BA)
  have H3 := hid (hr3.below BA)
  have HB := hid BA
  clear hr1 hr2 hr3 BA
  go_enter Tryd.func41, Tryd.ntmps41
  go_wp2_with (at_builtin; refine wpList_append_rs rfl _ _ rfl _ rfl rfl A0.out H1.out (by first | omega | (simp; omega)) ?_)
  intro v1 w1 ar1
  have k13 : w1.cell? ⟨w.heap.size, 13, none⟩ = _ := (K0.below ar1.2).cell (i := 13) rfl
  have A1 := hid ar1
  clear ar1 A0
  go_wp2_with (at_builtin; refine wpList_append_rs rfl _ _ rfl _ rfl rfl A1.out H2.out (by first | omega | (simp; omega)) ?_)
  intro v2 w2 ar2
  have k14 : w2.cell? ⟨w.heap.size, 14, none⟩ = _ := (K0.below ar2.2).cell (i := 14) rfl
  have A2 := hid ar2
  clear ar2 A1 k13
  go_wp2_with (at_builtin; refine wpList_append_rs rfl _ _ rfl _ rfl rfl A2.out H3.out (by first | omega | (simp; omega)) ?_)
  intro v3 w3 ar3
  have B3 := hid (grown_on HB.out ar3.2)
  have hlen : rs.length ≤ 4000000000000 := by rw [hrs.out]; simp; omega
  obtain ⟨x, c, rfl, hx⟩ := (show ARow _ v3 rs w3 from by rw [hrs.out]; simpa using ar3).open hlen
  have X := hid hx
  clear ar3 A2 k14 hx
  go_wp2_with fail
  go_ret
  exact ⟨x, c, rfl, X.out, B3.out⟩

/-- From the start of this block there lie these bytes. -/
def RowAt (w : World) (b : Nat) (xs : List Int) : Prop := ∀ j u, (xs.map (Value.int .u8))[j]? = some u → w.cell? ((⟨b, 0, none⟩ : Addr).add j) = some u

set_option maxRecDepth 100000 in
/-- '[]byte(s)': a new row that holds the string's bytes. -/
theorem wpList_of_string {w : World} {ops : Array Oper} {rest : List Oper} {o : Oper} {a : Act} {Q : Exit → Act → World → Prop} (hgd : o.guard = none) (x : Operand) (ho : o.op = .convert 9 22 x) (s : ByteArray) (hx : a.eval x = .string s)
    (hK : ∀ c w', w.grownBy w' none → w.heap.size < w'.heap.size → RowAt w' w.heap.size (Nm.bs s) → wpList Tryd.prog ops Q rest (a.put o.dst (.slice (some ⟨w.heap.size, 0, none⟩) s.size c)) w') : wpList Tryd.prog ops Q (o :: rest) a w := by
  refine wpList_plain hgd fun K hK' => ?_
  have hrun := run_bytes_of_string (P := Tryd.prog) w 9 22 5 s Tryd.underlying9 Tryd.underlying22 Tryd.underlying5
  unfold Oper.wp execOp
  simp only [ho, hx, Sem.run_bind, Sem.run_pure, Result.andThen_ok, hrun]
  refine hK' _ _ (hK _ _ ?_ ?_ ?_)
  · exact ⟨rfl, rfl, rfl, by simp, fun k hk _ => Below.heap_alloc w _ k hk⟩
  · simp
  · intro j u hj
    rw [Go.WideShapes.add_plain, Nat.zero_add]
    have hl : j < s.size := by
      rcases Nat.lt_or_ge j s.size with q | q
      · exact q
      · rw [List.getElem?_eq_none (by simpa [bs_length] using q)] at hj; cases hj
    refine Eq.trans (World.cell?_alloc_mark w.drew _ _ _ _) ?_
    rw [bytesRow_at s _ j hl]
    rw [List.getElem?_map, List.getElem?_eq_getElem (by rw [bs_length]; exact hl), bs_get s j hl] at hj
    exact hj

set_option maxHeartbeats 1000000 in
set_option maxRecDepth 100000 in
theorem sent_any {y : Option Addr} {d l : Nat} (n : List ByteArray) (w : World) (hn : Strs w y d n) (hl : n.length = l) (hk : Nm.checkN (n.map Nm.bs) = 0) :
    Calls Tryd.prog 61 #[.slice y l d] w fun e w' => ∃ x c, e = .returned (.slice x (Nm.total (n.map Nm.bs) + 1) c) ∧ Rowb w' w.heap.size (.slice x (Nm.total (n.map Nm.bs) + 1) c) (Nm.sentL (n.map Nm.bs) ++ [0]) ∧ Below w.heap.size w w' := by
  subst hl
  obtain ⟨i0, hi, hz0, hz1, hz2⟩ := info_of_byte
  have K := hid hk
  have h254 := check_len hk
  rw [List.length_map] at h254
  have hlen : n.length ≤ 8796093022208 := hn.2.1
  clear hk
  go_enter Tryd.func61, Tryd.ntmps61
  go_wp2_with fail
  go_loopw [3, 4] (fun v vi wr => ∃ i : Nat, i ≤ n.length ∧ vi = .int .i64 (i : Int) ∧ Rowb wr w.heap.size v (Nm.sentL ((n.map Nm.bs).take i)) ∧ Below w.heap.size w wr ∧ w.heap.size ≤ wr.heap.size) (fun _ i _ => n.length - (intOf i).toNat)
  case atStart => exact ⟨0, Nat.zero_le _, rfl, World.ownsRow_nil _ _ _ _, Below.refl _ _, Nat.le_refl _⟩
  case round =>
    obtain ⟨i, hi2, rfl, hrow, hbel, hsz⟩ := hrel
    have hT := total_take_le n i K.out
    have hsl : (Nm.sentL ((n.map Nm.bs).take i)).length ≤ 254 := by rw [Nm.sentL_length]; exact hT
    by_cases ci : i < n.length
    · obtain ⟨b0, o0, rfl, hb0, q0⟩ : ∃ b off, y = some ⟨b, off, none⟩ ∧ b < wr.heap.size ∧ ∀ i, i < n.length → wr.cell? ⟨b, off + i, none⟩ = some (.string (n.getD i ByteArray.empty)) := by
        rcases (hn.below hbel).2.2.2 with hd | hd
        · rw [hd] at ci; simp at ci
        · exact hd
      have q1 := q0 i ci
      have hok : 0 < (n.getD i ByteArray.empty).size ∧ (n.getD i ByteArray.empty).size ≤ 63 := by
        have h1 := List.all_eq_true.1 (check_zero K.out).1 (Nm.bs (n.getD i ByteArray.empty)) (List.mem_map.2 ⟨n.getD i ByteArray.empty, by rw [List.getD_eq_getElem?_getD, List.getElem?_eq_getElem ci]; exact List.getElem_mem ci, rfl⟩)
        unfold Nm.okL at h1
        have := of_decide_eq_true h1
        rw [bs_length] at this
        exact this
      obtain ⟨hok0, hok⟩ := hok
      have HSn : Hid (Nm.sentL ((n.map Nm.bs).take (i + 1)) = Nm.sentL ((n.map Nm.bs).take i) ++ ((n.getD i ByteArray.empty).size : Int) :: Nm.bs (n.getD i ByteArray.empty)) := hid (by
        rw [List.take_succ_eq_append_getElem (by simpa using ci), Nm.sentL_append, List.getElem_map]
        have e : n[i] = n.getD i ByteArray.empty := by rw [List.getD_eq_getElem?_getD, List.getElem?_eq_getElem ci]; rfl
        rw [e, Nm.sentL_cons, Nm.sentL_nil, List.append_nil, bs_length])
      generalize n.getD i ByteArray.empty = lab at *
      generalize Nm.sentL ((n.map Nm.bs).take i) = X at *
      have HB := hid hbel
      have HNN := hid hn
      have ci2 : (i : Int) < (n.length : Int) := by omega
      unfold Rowb at hrow
      clear hbel hn q0
      go_wp2_with (at_builtin; refine wpList_append_own _ rfl _ _ 22 rfl w.heap.size 5 i0 (.int .u8 0) 1 1 Tryd.underlying22 hi hz0 hz1 hz2 rfl (by decide) _ _ _ rfl (hrow.alloc _) ⟨wr.heap.size, 0, none⟩ 1 1 [.int .u8 (lab.size : Int)] rfl rfl (cells_new wr [.int .u8 (lab.size : Int)] 5) (one_cells [(lab.size : Int)]) (by unfold maxLen; omega) (by omega) (by simp; omega) ?_)
      intro v1 w1 ho1 hg1 hp1
      have hg1' := grown_alloc hg1
      have B1 := hid (Rowb.below hrow HB.out hsz hg1')
      have hsz1 : w.heap.size ≤ w1.heap.size := Nat.le_trans hsz hg1'.size
      have q2 : w1.cell? ⟨b0, o0 + i, none⟩ = some (.string lab) := by
        have hb0' : b0 < w.heap.size := by
          rcases HNN.out.2.2.2 with hd | ⟨b, off, hy, hb, _⟩
          · rw [hd] at ci; simp at ci
          · cases hy; exact hb
        rw [B1.out.cell (p := ⟨b0, o0 + i, none⟩) hb0', ← HB.out.cell (p := ⟨b0, o0 + i, none⟩) hb0']
        exact q1
      have R1 : Hid (w1.ownsRow w.heap.size 5 1 v1 (X.length + 1) ((X ++ [(lab.size : Int)]).map (Value.int .u8))) := hid (by rw [List.map_append]; exact ho1)
      clear ho1 hg1 hg1' hp1 hrow q1 HB
      go_wp2_with (refine wpList_of_string rfl _ rfl lab rfl ?_)
      intro c2 w2 g2 hlt2 hcs2
      have R2 := hid (World.ownsRow.kept R1.out g2 (by cases v1.ownBlock <;> simp))
      have B2 := hid (B1.out.grown g2 hsz1 (fun k hk => by cases hk))
      have hsz2 : w.heap.size ≤ w2.heap.size := by omega
      have CS := hid hcs2
      clear g2 hcs2 R1 B1
      go_wp2_with (at_builtin; refine wpList_append_own _ rfl _ _ 22 rfl w.heap.size 5 i0 (.int .u8 0) 1 1 Tryd.underlying22 hi hz0 hz1 hz2 rfl (by decide) _ _ _ rfl R2.out ⟨w1.heap.size, 0, none⟩ lab.size _ ((Nm.bs lab).map (Value.int .u8)) rfl (by rw [List.length_map, bs_length, Nat.mul_one]) CS.out (one_cells (Nm.bs lab)) (by unfold maxLen; omega) (by omega) (by omega) ?_)
      intro v3 w3 ho3 hg3 hp3
      have B3 := hid (B2.out.grown hg3 hsz2 (fun k hk => (World.ownsRow.lt R2.out k hk).1))
      have R3 : Hid (Rowb w3 w.heap.size v3 (Nm.sentL ((n.map Nm.bs).take (i + 1)))) := hid (Rowb.of ho3 (by rw [HSn.out]; simp [bs_length]; omega) (by rw [HSn.out]; simp))
      have hsz3 : w.heap.size ≤ w3.heap.size := Nat.le_trans hsz2 hg3.size
      clear ho3 hg3 hp3 R2 B2 CS
      go_wp2_with fail
      refine ⟨⟨i + 1, by omega, by go_num, R3.out, B3.out, hsz3⟩, by simp [intOf]; omega⟩
    · have ei : i = n.length := by omega
      subst ei
      have HB := hid hbel
      have HR := hid hrow
      clear hbel hrow
      generalize HX : Nm.sentL ((n.map Nm.bs).take n.length) = X at *
      have EX : Hid (X = Nm.sentL (n.map Nm.bs)) := hid (by rw [← HX, List.take_of_length_le (by simp)])
      have hTX : X.length = Nm.total (n.map Nm.bs) := by rw [EX.out, Nm.sentL_length]
      have HTX := hid hTX
      have HR2 : wr.ownsRow w.heap.size 5 1 u3 X.length (X.map (Value.int .u8)) := HR.out
      clear HX hTX HR
      go_wp2_with (at_builtin; refine wpList_append_own _ rfl _ _ 22 rfl w.heap.size 5 i0 (.int .u8 0) 1 1 Tryd.underlying22 hi hz0 hz1 hz2 rfl (by decide) _ _ _ rfl (HR2.alloc _) ⟨wr.heap.size, 0, none⟩ 1 1 [.int .u8 0] rfl rfl (cells_new wr [.int .u8 0] 5) (one_cells [0]) (by unfold maxLen; omega) (by omega) (by simp; omega) ?_)
      intro v1 w1 ho1 hg1 hp1
      have B1 := hid (Rowb.below HR2 HB.out hsz (grown_alloc hg1))
      have R1 : Hid (Rowb w1 w.heap.size v1 (Nm.sentL (n.map Nm.bs) ++ [0])) := hid (Rowb.of ho1 (by rw [← EX.out]; simp) (by rw [← EX.out]; simp))
      clear ho1 hg1 hp1 HR2 HB
      obtain ⟨x, c, e⟩ : ∃ x c, v1 = .slice x (Nm.total (n.map Nm.bs) + 1) c := by
        have hl : (Nm.sentL (n.map Nm.bs) ++ [0]).length = Nm.total (n.map Nm.bs) + 1 := by simp [Nm.sentL_length]
        rcases R1.out.2 with ⟨e, e2⟩ | ⟨g, cap, cur, e, _⟩
        · rw [hl] at e2; cases e2
        · rw [hl] at e; exact ⟨_, _, e⟩
      subst e
      go_wp2_with fail
      go_ret
      exact ⟨x, c, rfl, R1.out, B1.out⟩

end Go.Proofs.YtbbgabdiikdjpaaDoor
