/-
  Rules in a row that the call owns: what they ask lies in older memory.
-/
import Derived.Test.YtnbabdfcamdapaaChDef
import Derived.Test.YtnbabdfcamdapaaRlRow
import Derived.Deep.Upon
namespace Go.Proofs.Ytnbabdfcamdapaa.Ru
open Go.RowKit Go.Deep

/-- A rule with where its questions lie. -/
structure Re where
  r : Ra
  x : Option Addr
  c : Nat

def recells (e : Re) : List Value := [.slice e.x e.r.ms.length e.c, .int .i64 e.r.act]

/-- Its parts lie in memory. -/
def ReIn (w : World) (e : Re) : Prop := Mats w e.x e.c e.r.ms ∧ (-9223372036854775808 ≤ e.r.act ∧ e.r.act ≤ 9223372036854775807)

theorem ReIn.below {w w' : World} {e : Re} (h : ReIn w e) (k : Below w.heap.size w w') : ReIn w' e := ⟨h.1.below k, h.2⟩

theorem reflat_len (L : List Re) : (L.flatMap recells).length = L.length * 2 := by
  induction L with
  | nil => simp
  | cons x L ih => rw [List.flatMap_cons, List.length_append, ih, List.length_cons, Nat.succ_mul]; simp [recells]; omega

theorem reflat_get : ∀ (L : List Re) (i j : Nat) (hi : i < L.length), j < 2 → (L.flatMap recells)[i * 2 + j]? = (recells L[i])[j]? := by
  intro L
  induction L with
  | nil => intro i j hi; simp at hi
  | cons x L ih =>
    intro i j hi hj
    rw [List.flatMap_cons]
    have hx : (recells x).length = 2 := rfl
    cases i with
    | zero => rw [Nat.zero_mul, Nat.zero_add, List.getElem?_append_left (by rw [hx]; exact hj)]; rfl
    | succ i =>
      rw [List.getElem?_append_right (by rw [hx, Nat.succ_mul]; omega), hx]
      rw [show (i + 1) * 2 + j - 2 = i * 2 + j by rw [Nat.succ_mul]; omega, ih i j (by simpa using hi) hj]
      rfl

theorem recells_one (L : List Re) : ∀ u ∈ L.flatMap recells, u.oneCell' = true := by
  intro u hu
  obtain ⟨e, _, he⟩ := List.mem_flatMap.1 hu
  simp only [recells, List.mem_cons, List.not_mem_nil, or_false] at he
  rcases he with rfl | rfl <;> rfl

/-- These rules stand where a slice leads to. -/
def ReAt (w : World) (x : Option Addr) (M : List Re) : Prop := M = [] ∨ ∃ b off, x = some ⟨b, off, none⟩ ∧ b < w.heap.size ∧ ∀ j u, (M.flatMap recells)[j]? = some u → w.cell? ⟨b, off + j, none⟩ = some u

theorem ReAt.below {w w' : World} {x : Option Addr} {M : List Re} (h : ReAt w x M) (k : Below w.heap.size w w') : ReAt w' x M := by
  rcases h with h | ⟨b, off, e, hb, h⟩
  · exact Or.inl h
  · exact Or.inr ⟨b, off, e, Nat.lt_of_lt_of_le hb k.size, fun j u hj => by rw [k.cell (p := ⟨b, off + j, none⟩) hb]; exact h j u hj⟩

/-- Rules in memory as rules with their parts. -/
theorem ras_re {w : World} {x : Option Addr} {c : Nat} {rs : List Ra} (h : Ras w x c rs) : ∃ M : List Re, M.map Re.r = rs ∧ (∀ e ∈ M, ReIn w e) ∧ ReAt w x M := by
  obtain ⟨_, _, hnum, h4⟩ := h
  rcases h4 with q | ⟨b, off, hx, hb, hc⟩
  · subst q
    exact ⟨[], rfl, fun e he => by simp at he, Or.inl rfl⟩
  · obtain ⟨L, hl, hL⟩ := a_list (P := fun i (e : Re) => ∃ hi : i < rs.length, e.r = rs[i] ∧ ReIn w e ∧ w.cell? ⟨b, off + i * 2, none⟩ = some (.slice e.x e.r.ms.length e.c) ∧ w.cell? ⟨b, off + i * 2 + 1, none⟩ = some (.int .i64 e.r.act)) rs.length (fun i hi => by
      obtain ⟨y, s, k0, k1, k2⟩ := hc i hi
      exact ⟨⟨rs[i], y, s⟩, hi, rfl, ⟨k2, hnum _ (List.getElem_mem hi)⟩, k0, k1⟩)
    refine ⟨L, ?_, ?_, Or.inr ⟨b, off, hx, hb, ?_⟩⟩
    · refine List.ext_getElem (by simp [hl]) fun i h1 h2 => ?_
      rw [List.getElem_map]
      exact (hL i (by simpa using h1)).2.1
    · intro e he
      obtain ⟨i, hi, rfl⟩ := List.getElem_of_mem he
      exact (hL i hi).2.2.1
    · intro j u hj
      have hj2 : j < L.length * 2 := by
        rw [← reflat_len]
        exact (List.getElem?_eq_some_iff.1 hj).1
      obtain ⟨d, r, hr4, rfl⟩ : ∃ d r, r < 2 ∧ j = d * 2 + r := ⟨j / 2, j % 2, by omega, by omega⟩
      have hi : d < L.length := by omega
      obtain ⟨_, _, _, k0, k1⟩ := hL d hi
      rw [reflat_get L d r hi hr4] at hj
      rcases (show r = 0 ∨ r = 1 by omega) with rfl | rfl
      · simp [recells] at hj; subst hj; simpa using k0
      · simp [recells] at hj; subst hj; simpa [Nat.add_assoc] using k1

/-- Rules with their parts are rules in memory. -/
theorem re_ras {w : World} {x : Option Addr} {c : Nat} {M : List Re} (hc : M.length ≤ c) (hl : M.length ≤ 5000000000000) (hin : ∀ e ∈ M, ReIn w e) (hat : ReAt w x M) : Ras w x c (M.map Re.r) := by
  refine ⟨by rw [List.length_map]; exact hc, by rw [List.length_map]; exact hl, fun r hr => ?_, ?_⟩
  · obtain ⟨e, he, rfl⟩ := List.mem_map.1 hr
    exact (hin e he).2
  · rcases hat with q | ⟨b, off, e, hb, h⟩
    · subst q; exact Or.inl rfl
    · refine Or.inr ⟨b, off, e, hb, fun i hi => ?_⟩
      rw [List.length_map] at hi
      rw [List.getElem_map]
      have k0 := h (i * 2 + 0) _ (reflat_get M i 0 hi (by decide))
      have k1 := h (i * 2 + 1) _ (reflat_get M i 1 hi (by decide))
      exact ⟨_, _, k0, k1, (hin _ (List.getElem_mem hi)).1⟩

/-- A row of rules that the call owns: in blocks from B on; its parts lie in memory as it was in wp. -/
def RaRow (wp : World) (B : Nat) (w : World) (v : Value) (rs : List Ra) : Prop :=
  ∃ L : List Re, L.map (·.r) = rs ∧ w.ownsRow B 25 2 v L.length (L.flatMap recells) ∧ (∀ e ∈ L, ReIn wp e) ∧ Below wp.heap.size wp w

theorem RaRow.stay {wp w w' : World} {B : Nat} {v : Value} {rs : List Ra} (h : RaRow wp B w v rs) (k : Below w.heap.size w w') : RaRow wp B w' v rs := by
  obtain ⟨L, h1, h2, h3, h4⟩ := h
  refine ⟨L, h1, World.ownsRow.kept h2 (row := none) ⟨k.os, k.tape, k.output, k.size, fun i hi _ => k.block i hi⟩ ?_, h3, h4.trans (k.mono h4.size)⟩
  cases v.ownBlock <;> simp

/-- Where such a row lies. -/
theorem RaRow.own {wp w : World} {B : Nat} {v : Value} {rs : List Ra} (h : RaRow wp B w v rs) : ∃ (x : Option Addr) (c : Nat) (M : List Re), v = .slice x rs.length c ∧ rs.length ≤ c ∧ M.map Re.r = rs ∧ (∀ e ∈ M, ReIn w e) ∧ ReAt w x M ∧ (0 < rs.length → ∃ g, x = some ⟨g, 0, none⟩ ∧ B ≤ g) := by
  obtain ⟨L, rfl, h2, h3, h4⟩ := h
  rw [List.length_map]
  have hc := fun (g : Nat) (hg : v.ownBlock = some g) => h2.cells hg
  have hlt := World.ownsRow.lt h2
  rcases h2.2 with ⟨rfl, h5⟩ | ⟨g, cap, cur, rfl, hg, hh, hn, _⟩
  · have : L = [] := List.length_eq_zero_iff.1 h5
    subst this
    exact ⟨none, 0, [], rfl, Nat.zero_le _, rfl, fun e he => by simp at he, Or.inl rfl, fun q => by simp at q⟩
  · refine ⟨_, cap, L, rfl, hn, rfl, fun e he => (h3 e he).below h4, Or.inr ⟨g, 0, rfl, (hlt g rfl).2, fun j u hj => ?_⟩, fun _ => ⟨g, rfl, hg⟩⟩
    have := hc g rfl j u hj
    simpa [Go.WideShapes.add_plain] using this

/-- A row of the call's own can be read. -/
theorem RaRow.ras {wp w : World} {B : Nat} {v : Value} {rs : List Ra} (h : RaRow wp B w v rs) (hl : rs.length ≤ 5000000000000) : ∃ x c, v = .slice x rs.length c ∧ Ras w x c rs := by
  obtain ⟨x, c, M, h1, h2, rfl, h4, h5, _⟩ := h.own
  rw [List.length_map] at h1 h2 hl ⊢
  exact ⟨x, c, h1, re_ras h2 hl h4 h5⟩

theorem info_rule : (Try.prog.info? 25).map (fun i => (i.zero, i.size, i.bytes)) = some (some (.agg #[.slice none 0 0, .int .i64 0]), 2, 32) := by kernel_rfl

theorem info_of_rule : ∃ i, Try.prog.info? 25 = some i ∧ i.zero = some (.agg #[.slice none 0 0, .int .i64 0]) ∧ i.size = 2 ∧ i.bytes = 32 := info_parts info_rule

/-- Rules appended to a row of the call's own. -/
theorem run_append_re {wp w : World} {B : Nat} {v : Value} {rs : List Ra} {y : Option Addr} {m c : Nat} (ty : TypeId) (M : List Re) (h : RaRow wp B w v rs) (hM : M.length = m) (hat : ReAt w y M) (hin : ∀ e ∈ M, ReIn wp e) (hl : (rs.length + m) * 32 ≤ 140737488355328) (hB : wp.heap.size ≤ B) (hB2 : B ≤ w.heap.size) :
    ∃ v' w', (Builtin.append_ #[22, 22] ty #[v, .slice y m c]).run Try.prog w = .ok v' w' ∧ RaRow wp B w' v' (rs ++ M.map Re.r) ∧ Below B w w' ∧ w.grownBy w' v.ownBlock := by
  obtain ⟨i0, hi, hz0, hz1, hz2⟩ := info_of_rule
  obtain ⟨L, rfl, h2, h3, h4⟩ := h
  subst hM
  rw [List.length_map] at hl
  rcases hat with q | ⟨b, off, rfl, _, hcell⟩
  · subst q
    have hv : ∃ base cap, v = .slice base L.length cap ∧ L.length ≤ cap := by
      rcases h2.2 with ⟨e, e2⟩ | ⟨g, cap, cur, e, _, _, hn, _⟩
      · exact ⟨none, 0, by rw [e, e2], by omega⟩
      · exact ⟨_, cap, e, hn⟩
    obtain ⟨base, cap, rfl, hle⟩ := hv
    have hsrc : Src Try.prog i0.size 22 (.slice y 0 c) 0 [] w := by
      cases y with
      | none => exact Src.ofNil w Try.underlying22 c
      | some a => exact Src.ofSlice w Try.underlying22 a 0 c [] (by simp) (fun j u hj => by simp at hj) (fun u hu => by cases hu)
    exact ⟨_, w, run_append_nothing w 22 22 ty 25 i0 Try.underlying22 hi base L.length cap hle _ hsrc, ⟨L, by simp, h2, h3, h4⟩, Below.refl _ _, ⟨rfl, rfl, rfl, Nat.le_refl _, fun k _ _ => rfl⟩⟩
  · have hnews : ∀ j u, (M.flatMap recells)[j]? = some u → w.cell? ((⟨b, off, none⟩ : Addr).add j) = some u := by
      intro j u hj
      rw [Go.WideShapes.add_plain]
      exact hcell j u hj
    obtain ⟨v', w', hrun, k2, k3, _, _⟩ := run_append_own_at (P := Try.prog) w B 22 ty 25 i0 _ 2 32 Try.underlying22 hi hz0 hz1 hz2 rfl (by omega) v L.length (L.flatMap recells) h2 ⟨b, off, none⟩ M.length c (M.flatMap recells) (reflat_len M) hnews (recells_one M) (by unfold maxLen; omega) (by omega) hB2
    have hbel : Below B w w' := (Below.refl B w).grown k3 hB2 fun k hk => (World.ownsRow.lt h2 k hk).1
    refine ⟨v', w', hrun, ⟨L ++ M, by simp, ?_, fun e he => ?_, h4.trans (hbel.mono hB)⟩, hbel, k3⟩
    · rw [List.length_append, List.flatMap_append]; exact k2
    · rcases List.mem_append.1 he with he | he
      · exact h3 e he
      · exact hin e he

/-- Rules appended, in a region in the text's order. -/
theorem wpList_append_re {wp w : World} {B : Nat} {v : Value} {rs : List Ra} {y : Option Addr} {m c : Nat} (M : List Re) {ops : Array Oper} {rest : List Oper} {o : Oper} {a : Act} {Q : Exit → Act → World → Prop} (hgd : o.guard = none) (sl x : Operand)
    (ho : o.op = .call { callee := .builtin .append, args := #[sl, x], argTypes := #[22, 22] }) (hs : a.eval sl = v) (hx : a.eval x = .slice y m c) (h : RaRow wp B w v rs) (hM : M.length = m) (hat : ReAt w y M) (hin : ∀ e ∈ M, ReIn wp e) (hl : (rs.length + m) * 32 ≤ 140737488355328) (hB : wp.heap.size ≤ B) (hB2 : B ≤ w.heap.size)
    (hK : ∀ v' w', RaRow wp B w' v' (rs ++ M.map Re.r) → Below B w w' → wpList Try.prog ops Q rest (a.put o.dst v') w') : wpList Try.prog ops Q (o :: rest) a w := by
  refine wpList_plain hgd fun K hK' => ?_
  obtain ⟨v', w', hrun, k1, k2, _⟩ := run_append_re (c := c) o.type M h hM hat hin hl hB hB2
  unfold Oper.wp execOp
  simp only [ho, resolve, invoke, builtin, Sem.run_bind, Sem.run_pure, Result.andThen_ok, List.map_toArray, List.map_cons, List.map_nil, hs, hx, hrun]
  exact hK' _ _ (hK v' w' k1 k2)

/-- Rules appended, as a step of a region that draws. -/
theorem wp_append_re {wp w : World} {B : Nat} {v : Value} {rs : List Ra} {y : Option Addr} {m c : Nat} (M : List Re) {o : Oper} {a : Act} {K : Act → World → Prop} {Q : Exit → Act → World → Prop} (sl x : Operand)
    (ho : o.op = .call { callee := .builtin .append, args := #[sl, x], argTypes := #[22, 22] }) (hs : a.eval sl = v) (hx : a.eval x = .slice y m c) (h : RaRow wp B w v rs) (hM : M.length = m) (hat : ReAt w y M) (hin : ∀ e ∈ M, ReIn wp e) (hl : (rs.length + m) * 32 ≤ 140737488355328) (hB : wp.heap.size ≤ B) (hB2 : B ≤ w.heap.size)
    (hK : ∀ v' w', RaRow wp B w' v' (rs ++ M.map Re.r) → Below B w w' → K (a.put o.dst v') w') : o.wp Try.prog a w K Q := by
  obtain ⟨v', w', hrun, k1, k2, _⟩ := run_append_re (c := c) o.type M h hM hat hin hl hB hB2
  unfold Oper.wp execOp
  simp only [ho, resolve, invoke, builtin, Sem.run_bind, Sem.run_pure, Result.andThen_ok, List.map_toArray, List.map_cons, List.map_nil, hs, hx, hrun]
  exact hK _ _ k1 k2

/-- A row that was laid at once. -/
theorem rarow_lit {wp w : World} {B : Nat} (L : List Re) (k : Below wp.heap.size wp w) (hB : B ≤ w.heap.size) (hp : ∀ e ∈ L, ReIn wp e) (hl : L.length ≤ 100000) : RaRow wp B (w.alloc (.cells (L.flatMap recells).toArray 25)) (.slice (some ⟨w.heap.size, 0, none⟩) L.length L.length) (L.map (·.r)) :=
  ⟨L, rfl, World.ownsRow_lit w (L.flatMap recells).toArray L.length hB (by unfold maxLen; omega) (by simp only [List.size_toArray]; exact reflat_len L), hp, k.alloc k.size _⟩

end Go.Proofs.Ytnbabdfcamdapaa.Ru
