/-
  The walks of All and Sent of package pointsmanref1: all records of a message in one list; a name as it is sent.
-/
import Derived.Test.YtpmbbaacpnooeaaMgWrite
import Derived.Deep.Upon
import Derived.Maps.AppendAt
import Derived.Laws.IdiomStrings
namespace Go.Proofs.Ytpmbbaacpnooeaa
open Go.RowKit Go.Deep

/-- A row of the call's own that holds records whose parts lie in memory that was there. -/
def ARow (w0 : World) (v : Value) (rs : List Rn) (w : World) : Prop :=
  (∃ L : List (Rn × (Option Addr × Nat) × (Option Addr × Nat)), L.map (·.1) = rs ∧ w.ownsRow w0.heap.size 57 5 v L.length (L.flatMap rcells) ∧ ∀ e ∈ L, Strs w0 e.2.1.1 e.2.1.2 e.1.N ∧ Bys w0 e.2.2.1 e.2.2.2 e.1.D ∧ (e.2.2.1 = none → e.2.2.2 = 0)) ∧ Below w0.heap.size w0 w

theorem ARow.open {w0 w : World} {v : Value} {rs : List Rn} (h : ARow w0 v rs w) (hl : rs.length ≤ 4000000000000) : ∃ x c, v = .slice x rs.length c ∧ Rs w 0 x c rs := by
  obtain ⟨⟨L, rfl, h2, h3⟩, hb⟩ := h
  rw [List.length_map] at hl ⊢
  have hc := fun (g : Nat) (hg : v.ownBlock = some g) => h2.cells hg
  rcases h2.2 with ⟨rfl, h4⟩ | ⟨g, cap, cur, rfl, hg, hh, hn, _⟩
  · have : L = [] := List.length_eq_zero_iff.1 h4
    subst this
    exact ⟨none, 0, rfl, Rs.nil w 0 none 0⟩
  · refine ⟨_, cap, rfl, by rw [List.length_map]; exact hn, by rw [List.length_map]; exact hl, Or.inr ⟨g, 0, rfl, ?_, Nat.zero_le _, fun i hi => ?_⟩⟩
    · rcases Nat.lt_or_ge g w.heap.size with q | q
      · exact q
      · rw [Array.getElem?_eq_none q] at hh; simp at hh
    · rw [List.length_map] at hi
      have hf : ∀ a, (rcells a).length = 5 := fun a => rfl
      have c0 := hc g rfl (i * 5 + 0) _ (flat_get rcells 5 hf L i 0 hi (by decide))
      have c1 := hc g rfl (i * 5 + 1) _ (flat_get rcells 5 hf L i 1 hi (by decide))
      have c2 := hc g rfl (i * 5 + 2) _ (flat_get rcells 5 hf L i 2 hi (by decide))
      have c3 := hc g rfl (i * 5 + 3) _ (flat_get rcells 5 hf L i 3 hi (by decide))
      have c4 := hc g rfl (i * 5 + 4) _ (flat_get rcells 5 hf L i 4 hi (by decide))
      obtain ⟨k1, k3, k4⟩ := h3 L[i] (List.getElem_mem hi)
      rw [List.getElem_map]
      simp only [Go.WideShapes.add_plain, Nat.zero_add, Nat.add_zero] at c0 c1 c2 c3 c4
      rw [Nat.zero_add]
      exact ⟨L[i].2.1.1, L[i].2.1.2, L[i].2.2.1, L[i].2.2.2, c0, c1, c2, c3, c4, k1.below hb, k3.below hb, k4, fun a _ => Nat.zero_le _, fun a _ => Nat.zero_le _⟩

theorem list_pick {α β : Type} {P : Nat → α → β → Prop} : ∀ (l : List α), (∀ i (h : i < l.length), ∃ y, P i l[i] y) → ∃ L : List (α × β), L.map (·.1) = l ∧ ∀ i (h : i < L.length), P i L[i].1 L[i].2 := by
  intro l
  suffices H : ∀ (l : List α) (k : Nat), (∀ i (h : i < l.length), ∃ y, P (k + i) l[i] y) → ∃ L : List (α × β), L.map (·.1) = l ∧ ∀ i (h : i < L.length), P (k + i) L[i].1 L[i].2 by
    intro h
    obtain ⟨L, h1, h2⟩ := H l 0 (fun i hi => by rw [Nat.zero_add]; exact h i hi)
    exact ⟨L, h1, fun i hi => by have := h2 i hi; rw [Nat.zero_add] at this; exact this⟩
  intro l
  induction l with
  | nil => intro k _; exact ⟨[], rfl, fun i h => by simp at h⟩
  | cons x xs ih =>
    intro k h
    obtain ⟨y, hy⟩ := h 0 (by simp)
    obtain ⟨L, h1, h2⟩ := ih (k + 1) (fun i hi => by
      obtain ⟨y, hy⟩ := h (i + 1) (by simpa using hi)
      refine ⟨y, ?_⟩
      have e : k + 1 + i = k + (i + 1) := by omega
      rw [e]
      simpa using hy)
    refine ⟨(x, y) :: L, by simp [h1], fun i hi => ?_⟩
    cases i with
    | zero => simpa using hy
    | succ i =>
      have := h2 i (by simpa using hi)
      have e : k + 1 + i = k + (i + 1) := by omega
      rw [e] at this
      simpa using this

/-- The records of a slice, with where their parts lie. -/
theorem Rs.list {w : World} {bq : Nat} {x : Option Addr} {c : Nat} {rs : List Rn} (h : Rs w bq x c rs) : ∃ L : List (Rn × (Option Addr × Nat) × (Option Addr × Nat)), L.map (·.1) = rs ∧ (∀ e ∈ L, Strs w e.2.1.1 e.2.1.2 e.1.N ∧ Bys w e.2.2.1 e.2.2.2 e.1.D ∧ (e.2.2.1 = none → e.2.2.2 = 0)) ∧
    (rs = [] ∨ ∃ b off, x = some ⟨b, off, none⟩ ∧ b < w.heap.size ∧ ∀ j u, (L.flatMap rcells)[j]? = some u → w.cell? ⟨b, off + j, none⟩ = some u) := by
  rcases h.2.2 with h3 | ⟨b, off, hx, hb, _, hc⟩
  · subst h3
    exact ⟨[], rfl, fun e he => by simp at he, Or.inl rfl⟩
  · obtain ⟨L, h1, h2⟩ := list_pick (P := fun i (r : Rn) (y : (Option Addr × Nat) × (Option Addr × Nat)) => w.cell? ⟨b, off + i * 5, none⟩ = some (.slice y.1.1 r.N.length y.1.2) ∧ w.cell? ⟨b, off + i * 5 + 1, none⟩ = some (.int .i64 r.ty) ∧ w.cell? ⟨b, off + i * 5 + 2, none⟩ = some (.int .i64 r.cl) ∧ w.cell? ⟨b, off + i * 5 + 3, none⟩ = some (.int .i64 r.ttl) ∧ w.cell? ⟨b, off + i * 5 + 4, none⟩ = some (.slice y.2.1 r.D.length y.2.2) ∧ Strs w y.1.1 y.1.2 r.N ∧ Bys w y.2.1 y.2.2 r.D ∧ (y.2.1 = none → y.2.2 = 0)) rs (fun i hi => by
      obtain ⟨y, s, z, t, k1, k2, k3, k4, k5, k6, k7, k8, _⟩ := hc i hi
      exact ⟨((y, s), (z, t)), k1, k2, k3, k4, k5, k6, k7, k8⟩)
    refine ⟨L, h1, fun e he => ?_, Or.inr ⟨b, off, hx, hb, fun j u hj => ?_⟩⟩
    · obtain ⟨i, hi, rfl⟩ := List.mem_iff_getElem.1 he
      obtain ⟨_, _, _, _, _, k6, k7, k8⟩ := h2 i hi
      exact ⟨k6, k7, k8⟩
    · have hf : ∀ a, (rcells a).length = 5 := fun a => rfl
      have hjl : j < (L.flatMap rcells).length := by
        rcases Nat.lt_or_ge j (L.flatMap rcells).length with q | q
        · exact q
        · rw [List.getElem?_eq_none q] at hj; cases hj
      rw [flat_len rcells 5 hf] at hjl
      have hi : j / 5 < L.length := by omega
      have hm : j % 5 < 5 := by omega
      have ej : j = j / 5 * 5 + j % 5 := by omega
      rw [ej, flat_get rcells 5 hf L (j / 5) (j % 5) hi hm] at hj
      obtain ⟨k0, k1, k2, k3, k4, _⟩ := h2 (j / 5) hi
      rw [ej, ← Nat.add_assoc]
      have hcs : j % 5 = 0 ∨ j % 5 = 1 ∨ j % 5 = 2 ∨ j % 5 = 3 ∨ j % 5 = 4 := by omega
      rcases hcs with q | q | q | q | q <;> rw [q] at hj ⊢
      · rw [Nat.add_zero, k0]; exact hj
      · rw [k1]; exact hj
      · rw [k2]; exact hj
      · rw [k3]; exact hj
      · rw [k4]; exact hj

/-- Records appended to a row of the call's own. -/
theorem run_append_rs {w0 w : World} {bq : Nat} {v : Value} {xs rs : List Rn} {x : Option Addr} {c : Nat} (ty : TypeId) (h : ARow w0 v xs w) (hr : Rs w0 bq x c rs) (hl : xs.length + rs.length ≤ 1900000000000) :
    ∃ v' w', (Builtin.append_ #[25, 25] ty #[v, .slice x rs.length c]).run Try.prog w = .ok v' w' ∧ ARow w0 v' (xs ++ rs) w' := by
  obtain ⟨i0, hi, hz0, hz1, hz2⟩ := info_of_record
  obtain ⟨⟨L, hL, hown, hin⟩, hb0⟩ := h
  obtain ⟨M, hM, hMin, hMc⟩ := hr.list
  have hLl : L.length = xs.length := by rw [← hL, List.length_map]
  have hMl : M.length = rs.length := by rw [← hM, List.length_map]
  rcases hMc with h3 | ⟨b, off, rfl, hblt, hcell⟩
  · subst h3
    have hv : ∃ base cap, v = .slice base L.length cap ∧ L.length ≤ cap := by
      rcases hown.2 with ⟨e, e2⟩ | ⟨g, cap, cur, e, _, _, hn, _⟩
      · exact ⟨none, 0, by rw [e, e2], by omega⟩
      · exact ⟨_, cap, e, hn⟩
    obtain ⟨base, cap, rfl, hle⟩ := hv
    have hsrc : Src Try.prog i0.size 25 (.slice x ([] : List Rn).length c) 0 [] w := by
      cases x with
      | none => exact Src.ofNil w Try.underlying25 c
      | some a => exact Src.ofSlice w Try.underlying25 a 0 c [] (by simp) (fun j u hj => by simp at hj) (fun u hu => by cases hu)
    refine ⟨_, w, run_append_nothing w 25 25 ty 57 i0 Try.underlying25 hi base L.length cap hle _ hsrc, ⟨L, by rw [hL, List.append_nil], hown, hin⟩, hb0⟩
  · have hnews : ∀ j u, (M.flatMap rcells)[j]? = some u → w.cell? ((⟨b, off, none⟩ : Addr).add j) = some u := by
      intro j u hj
      rw [Go.WideShapes.add_plain, hb0.cell (p := ⟨b, off + j, none⟩) hblt]
      exact hcell j u hj
    have hone : ∀ u ∈ M.flatMap rcells, u.oneCell' = true := by
      intro u hu
      obtain ⟨e, _, hu2⟩ := List.mem_flatMap.1 hu
      simp only [rcells, List.mem_cons, List.not_mem_nil, or_false] at hu2
      rcases hu2 with rfl | rfl | rfl | rfl | rfl <;> rfl
    obtain ⟨v', w', hrun, hown', hg, _, _⟩ := run_append_own_at (P := Try.prog) w w0.heap.size 25 ty 57 i0 (.agg #[.slice none 0 0, .int .i64 0, .int .i64 0, .int .i64 0, .slice none 0 0]) 5 72 Try.underlying25 hi hz0 hz1 hz2 rfl (by decide) v L.length (L.flatMap rcells) hown ⟨b, off, none⟩ rs.length c (M.flatMap rcells) (by rw [flat_len rcells 5 (fun a => rfl), hMl]) hnews hone (by unfold maxLen; omega) (by omega) hb0.size
    refine ⟨v', w', hrun, ⟨L ++ M, by rw [List.map_append, hL, hM], ?_, fun e he => ?_⟩, ?_⟩
    · rw [List.length_append, hMl, List.flatMap_append]
      exact hown'
    · rcases List.mem_append.1 he with he | he
      · exact hin e he
      · exact hMin e he
    · exact hb0.grown hg hb0.size (fun k hk => (World.ownsRow.lt hown k hk).1)

theorem wpList_append_rs {w0 w : World} {bq : Nat} {xs rs : List Rn} {y : Option Addr} {c : Nat} {ops : Array Oper} {rest : List Oper} {o : Oper} {a : Act} {Q : Exit → Act → World → Prop} (hgd : o.guard = none) (sl x : Operand)
    (ho : o.op = .call { callee := .builtin .append, args := #[sl, x], argTypes := #[25, 25] }) (v : Value) (hs : a.eval sl = v) (hx : a.eval x = .slice y rs.length c) (h : ARow w0 v xs w) (hr : Rs w0 bq y c rs) (hl : xs.length + rs.length ≤ 1900000000000)
    (hK : ∀ v' w', ARow w0 v' (xs ++ rs) w' → wpList Try.prog ops Q rest (a.put o.dst v') w') : wpList Try.prog ops Q (o :: rest) a w := by
  refine wpList_plain hgd fun K hK' => ?_
  obtain ⟨v', w', hrun, har⟩ := run_append_rs o.type h hr hl
  unfold Oper.wp execOp
  simp only [ho, resolve, invoke, builtin, Sem.run_bind, Sem.run_pure, Result.andThen_ok, List.map_toArray, List.map_cons, List.map_nil, hs, hx, hrun]
  exact hK' _ _ (hK v' w' har)

theorem ARow.below {w0 w w' : World} {v : Value} {rs : List Rn} (h : ARow w0 v rs w) (k : Below w.heap.size w w') : ARow w0 v rs w' := by
  obtain ⟨⟨L, h1, h2, h3⟩, hb⟩ := h
  exact ⟨⟨L, h1, owns_stay h2 k, h3⟩, grown_on hb k⟩

/-- From the start of this block there lie these bytes. -/
def RowAt (w : World) (b : Nat) (xs : List Int) : Prop := ∀ j u, (xs.map (Value.int .u8))[j]? = some u → w.cell? ((⟨b, 0, none⟩ : Addr).add j) = some u

set_option maxRecDepth 100000 in
/-- '[]byte(s)': a new row that holds the string's bytes. -/
theorem wpList_of_string {w : World} {ops : Array Oper} {rest : List Oper} {o : Oper} {a : Act} {Q : Exit → Act → World → Prop} (hgd : o.guard = none) (x : Operand) (ho : o.op = .convert 9 36 x) (s : ByteArray) (hx : a.eval x = .string s)
    (hK : ∀ c w', w.grownBy w' none → w.heap.size < w'.heap.size → RowAt w' w.heap.size (Nm.bs s) → wpList Try.prog ops Q rest (a.put o.dst (.slice (some ⟨w.heap.size, 0, none⟩) s.size c)) w') : wpList Try.prog ops Q (o :: rest) a w := by
  refine wpList_plain hgd fun K hK' => ?_
  have hrun := run_bytes_of_string (P := Try.prog) w 9 36 5 s Try.underlying9 Try.underlying36 Try.underlying5
  unfold Oper.wp execOp
  simp only [ho, hx, Sem.run_bind, Sem.run_pure, Result.andThen_ok, hrun]
  refine hK' _ _ (hK _ _ ?_ ?_ ?_)
  · exact ⟨rfl, rfl, rfl, by simp, fun k hk _ => Below.heap_alloc w _ k hk⟩
  · simp
  · intro j u hj
    rw [Go.WideShapes.add_plain, Nat.zero_add]
    have hl : j < s.size := by
      rcases Nat.lt_or_ge j s.size with q | q
      · exact q
      · rw [List.getElem?_eq_none (by simpa [bs_length] using q)] at hj; cases hj
    refine Eq.trans (World.cell?_alloc_mark w.drew _ _ _ _) ?_
    rw [bytesRow_at s _ j hl]
    rw [List.getElem?_map, List.getElem?_eq_getElem (by rw [bs_length]; exact hl), bs_get s j hl] at hj
    exact hj

end Go.Proofs.Ytpmbbaacpnooeaa
