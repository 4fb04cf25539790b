/-
  Rules in a row, plain: the first that holds, and what is done (stage 13). Rules in a row, in memory; how they are opened among the arguments. What rules in a row say of a query, plain.
-/
import Derived.Test.YtnbabdfcamdapaaDoorRlMem
namespace Go.Proofs.YtnbabdfcamdapaaDoor.Ch

/-- The place of the first that holds; -1: none does. -/
def first : List Bool → Int
  | [] => -1
  | true :: _ => 0
  | false :: l => if first l < 0 then -1 else first l + 1

theorem first_lo (l : List Bool) : -1 ≤ first l := by
  induction l with
  | nil => simp [first]
  | cons b l ih => cases b <;> simp only [first] <;> (try split) <;> omega

theorem first_hi (l : List Bool) : first l < (l.length : Int) := by
  induction l with
  | nil => simp [first]
  | cons b l ih => cases b <;> simp only [first, List.length_cons] <;> (try split) <;> omega

/-- None of those does. -/
theorem first_none (l : List Bool) : first l < 0 ↔ ∀ b ∈ l, b = false := by
  induction l with
  | nil => simp [first]
  | cons b l ih =>
    cases b
    · simp only [first, List.mem_cons, forall_eq_or_imp, true_and, ← ih]
      split
      · constructor <;> intro _ <;> first | assumption | omega
      · constructor <;> intro _ <;> omega
    · simp [first]

theorem first_neg {l : List Bool} (h : first l < 0) : first l = -1 := by have := first_lo l; omega

/-- It holds, none ahead of it does. -/
theorem first_is (l : List Bool) (i : Nat) : first l = (i : Int) ↔ l[i]? = some true ∧ ∀ j, j < i → l[j]? = some false := by
  induction l generalizing i with
  | nil => simp [first]
  | cons b l ih =>
    cases b
    · simp only [first]
      cases i with
      | zero =>
        have := first_lo l
        simp only [List.getElem?_cons_zero]
        constructor
        · intro h; split at h <;> omega
        · rintro ⟨h, _⟩; simp at h
      | succ i =>
        have e : (if first l < 0 then -1 else first l + 1) = ((i + 1 : Nat) : Int) ↔ first l = (i : Int) := by
          have := first_lo l
          split <;> omega
        rw [e, ih i, List.getElem?_cons_succ]
        constructor
        · rintro ⟨h1, h2⟩
          refine ⟨h1, fun j hj => ?_⟩
          cases j with
          | zero => rfl
          | succ j => rw [List.getElem?_cons_succ]; exact h2 j (by omega)
        · rintro ⟨h1, h2⟩
          exact ⟨h1, fun j hj => by have := h2 (j + 1) (by omega); rwa [List.getElem?_cons_succ] at this⟩
    · simp only [first]
      cases i with
      | zero => simp
      | succ i =>
        constructor
        · intro h; omega
        · rintro ⟨_, h⟩; have := h 0 (by omega); simp at this

/-- Rules behind it change nothing. -/
theorem first_append (l m : List Bool) : first (l ++ m) = if 0 ≤ first l then first l else if first m < 0 then -1 else first m + l.length := by
  induction l with
  | nil => simp only [List.nil_append, first, List.length_nil, Int.natCast_zero, Int.add_zero]; have := first_lo m; split <;> (try split) <;> omega
  | cons b l ih =>
    cases b
    · simp only [List.cons_append, first, ih, List.length_cons]
      have := first_lo l; have := first_lo m
      repeat (first | omega | split)
    · simp [first]

theorem first_more {l : List Bool} (m : List Bool) (h : 0 ≤ first l) : first (l ++ m) = first l := by rw [first_append, if_pos h]

/-- What stands at each place, in a round. -/
theorem first_snoc (l : List Bool) (b : Bool) : first (l ++ [b]) = if 0 ≤ first l then first l else if b then (l.length : Int) else -1 := by
  rw [first_append]; cases b <;> simp [first]

theorem first_cons_true (l : List Bool) : first (true :: l) = 0 := rfl

theorem first_cons_false (l : List Bool) : first (false :: l) = if first l < 0 then -1 else first l + 1 := rfl

/-- What is done: what the first that holds has, or other. -/
def act (other : Int) : List (Bool × Int) → Int
  | [] => other
  | (true, d) :: _ => d
  | (false, _) :: l => act other l

theorem act_none (other : Int) (l : List (Bool × Int)) (h : ∀ x ∈ l, x.1 = false) : act other l = other := by
  induction l with
  | nil => rfl
  | cons x l ih =>
    obtain ⟨b, d⟩ := x
    have : b = false := h (b, d) List.mem_cons_self
    subst this
    exact ih fun y hy => h y (List.mem_cons_of_mem _ hy)

theorem act_first (other : Int) (l : List (Bool × Int)) (i : Nat) (h : first (l.map (·.1)) = (i : Int)) : ∃ b, l[i]? = some (b, act other l) := by
  induction l generalizing i with
  | nil => simp [first] at h
  | cons x l ih =>
    obtain ⟨b, d⟩ := x
    cases b
    · simp only [List.map_cons, first] at h
      have := first_lo (l.map (·.1))
      split at h
      · omega
      · cases i with
        | zero => omega
        | succ i => rw [List.getElem?_cons_succ]; exact ih i (by omega)
    · simp only [List.map_cons, first] at h
      have : i = 0 := by omega
      subst this
      exact ⟨true, rfl⟩

theorem act_append (other : Int) (l m : List (Bool × Int)) : act other (l ++ m) = act (act other m) l := by
  induction l with
  | nil => rfl
  | cons x l ih => obtain ⟨b, d⟩ := x; cases b <;> simp [act, ih]

/-- Two in a row that do the same, or do not both hold, may change their places. -/
theorem act_pair (other : Int) (x y : Bool × Int) (l : List (Bool × Int)) (h : ¬ (x.1 = true ∧ y.1 = true) ∨ x.2 = y.2) : act other (x :: y :: l) = act other (y :: x :: l) := by
  obtain ⟨a, d⟩ := x
  obtain ⟨b, e⟩ := y
  cases a <;> cases b <;> simp_all [act]

/-- Two neighbours changed. -/
theorem swap_split {α : Type} (l : List α) (k : Nat) {x y : α} (hx : l[k]? = some x) (hy : l[k + 1]? = some y) :
    l = l.take k ++ x :: y :: l.drop (k + 2) ∧ (l.set k y).set (k + 1) x = l.take k ++ y :: x :: l.drop (k + 2) := by
  induction l generalizing k with
  | nil => simp at hx
  | cons a l ih =>
    cases k with
    | zero =>
      cases l with
      | nil => simp at hy
      | cons b l =>
        simp only [List.getElem?_cons_zero, Option.some.injEq, List.getElem?_cons_succ] at hx hy
        subst hx; subst hy
        exact ⟨by simp, by simp⟩
    | succ k =>
      rw [List.getElem?_cons_succ] at hx hy
      obtain ⟨h1, h2⟩ := ih k hx hy
      refine ⟨?_, ?_⟩
      · rw [List.take_succ_cons, List.drop_succ_cons, List.cons_append, ← h1]
      · rw [List.set_cons_succ, List.set_cons_succ, List.take_succ_cons, List.drop_succ_cons, List.cons_append, ← h2]

theorem act_swap (other : Int) (l : List (Bool × Int)) (k : Nat) {x y : Bool × Int} (hx : l[k]? = some x) (hy : l[k + 1]? = some y) (h : ¬ (x.1 = true ∧ y.1 = true) ∨ x.2 = y.2) :
    act other ((l.set k y).set (k + 1) x) = act other l := by
  obtain ⟨h1, h2⟩ := swap_split l k hx hy
  rw [h2]
  conv => rhs; rw [h1]
  rw [act_append, act_append, act_pair _ x y _ h]

/-- The first that is wrong, and how. -/
def wrong : List Int → Int × Int
  | [] => (0, 0)
  | e :: l => if e = 0 then (let p := wrong l; if p.2 = 0 then (0, 0) else (p.1 + 1, p.2)) else (0, e)

theorem wrong_none (l : List Int) : (wrong l).2 = 0 ↔ ∀ e ∈ l, e = 0 := by
  induction l with
  | nil => simp [wrong]
  | cons e l ih =>
    simp only [wrong]
    by_cases h : e = 0
    · subst h
      simp only [if_true, List.mem_cons, forall_eq_or_imp, true_and, ← ih]
      split <;> simp_all
    · simp [h]

theorem wrong_zero {l : List Int} (h : (wrong l).2 = 0) : wrong l = (0, 0) := by
  cases l with
  | nil => rfl
  | cons e l =>
    simp only [wrong] at h ⊢
    split
    · rename_i he
      rw [if_pos he] at h
      split
      · rfl
      · rename_i hn; rw [if_neg hn] at h; exact absurd h hn
    · rename_i he; rw [if_neg he] at h; exact absurd h he

/-- All ahead are right, and this one is not: it is the one. -/
theorem wrong_at (l m : List Int) (e : Int) (h : ∀ x ∈ l, x = 0) (he : e ≠ 0) : wrong (l ++ e :: m) = ((l.length : Int), e) := by
  induction l with
  | nil => simp [wrong, he]
  | cons x l ih =>
    have hx : x = 0 := h x List.mem_cons_self
    subst hx
    have := ih fun y hy => h y (List.mem_cons_of_mem _ hy)
    simp only [List.cons_append, wrong, this, if_true, if_neg he, List.length_cons]
    simp

/-- The same, by places. -/
theorem wrong_get {l : List Int} {i : Nat} {e : Int} (h : ∀ j, j < i → l[j]? = some 0) (hi : l[i]? = some e) (he : e ≠ 0) : wrong l = ((i : Int), e) := by
  have hl : i < l.length := (List.getElem?_eq_some_iff.1 hi).1
  have e1 : l = l.take i ++ e :: l.drop (i + 1) := by
    obtain ⟨_, hg⟩ := List.getElem?_eq_some_iff.1 hi
    rw [← hg, List.getElem_cons_drop, List.take_append_drop]
  rw [e1, wrong_at _ _ _ (fun x hx => ?_) he, List.length_take, Nat.min_eq_left (Nat.le_of_lt hl)]
  obtain ⟨j, hj⟩ := List.mem_iff_getElem?.1 hx
  rw [List.getElem?_take] at hj
  split at hj
  · rename_i hji; have := h j hji; rw [this] at hj; exact (Option.some.inj hj).symm
  · cases hj

end Go.Proofs.YtnbabdfcamdapaaDoor.Ch

namespace Go.Proofs.YtnbabdfcamdapaaDoor.Ru
open Go.ChangeShapes Go.WideShapes Go.ChangeAt Go.RowKit Go.Deep

/-- A rule of a row: what it asks, and what it does. -/
structure Ra where
  ms : List Mt
  act : Int

/-- A rule stands at a place of a block. -/
def RaCell (w : World) (b o : Nat) (r : Ra) : Prop :=
  ∃ x c, w.cell? ⟨b, o, none⟩ = some (.slice x r.ms.length c) ∧ w.cell? ⟨b, o + 1, none⟩ = some (.int .i64 r.act) ∧ Mats w x c r.ms

/-- A slice leads to these rules. -/
def Ras (w : World) (x : Option Addr) (c : Nat) (rs : List Ra) : Prop :=
  rs.length ≤ c ∧ rs.length ≤ 5000000000000 ∧ (∀ r ∈ rs, -9223372036854775808 ≤ r.act ∧ r.act ≤ 9223372036854775807) ∧
    (rs = [] ∨ ∃ b off, x = some ⟨b, off, none⟩ ∧ b < w.heap.size ∧ ∀ i (h : i < rs.length), RaCell w b (off + i * 2) rs[i])

theorem RaCell.below {w w' : World} {b o : Nat} {r : Ra} (h : RaCell w b o r) (hb : b < w.heap.size) (k : Below w.heap.size w w') : RaCell w' b o r := by
  obtain ⟨x, c, h1, h2, h3⟩ := h
  exact ⟨x, c, by rw [k.cell (p := ⟨b, o, none⟩) hb]; exact h1, by rw [k.cell (p := ⟨b, o + 1, none⟩) hb]; exact h2, h3.below k⟩

theorem Ras.below {w w' : World} {x : Option Addr} {c : Nat} {rs : List Ra} (h : Ras w x c rs) (k : Below w.heap.size w w') : Ras w' x c rs := by
  obtain ⟨h1, h2, h3, h4⟩ := h
  refine ⟨h1, h2, h3, ?_⟩
  rcases h4 with h4 | ⟨b, off, hx, hb, hc⟩
  · exact Or.inl h4
  · exact Or.inr ⟨b, off, hx, Nat.lt_of_lt_of_le hb k.size, fun i hi => (hc i hi).below hb k⟩

theorem Ras.nil (w : World) (x : Option Addr) (c : Nat) : Ras w x c [] := ⟨Nat.zero_le _, by simp, fun m hm => by simp at hm, Or.inl rfl⟩

theorem Ras.here {w : World} {x : Option Addr} {c : Nat} {rs : List Ra} (h : Ras w x c rs) {i : Nat} (hi : i < rs.length) : ∃ b off, x = some ⟨b, off, none⟩ ∧ b < w.heap.size ∧ RaCell w b (off + i * 2) rs[i] := by
  rcases h.2.2.2 with q | ⟨b, off, e, hb, q⟩
  · rw [q] at hi; simp at hi
  · exact ⟨b, off, e, hb, q i hi⟩

theorem cells_rule : Tryd.prog.cellsOf 39 = 2 := by kernel_rfl

theorem bytes_rule : Tryd.prog.bytesOf 39 = 32 := by kernel_rfl

theorem cells_matches : Tryd.prog.cellsOf 37 = 1 := by kernel_rfl

theorem two {α : Type} {l : List α} (h : l.length = 2) : ∃ a0 a1, l = [a0, a1] := by
  match l, h with
  | [a0, a1], _ => exact ⟨a0, a1, rfl⟩

theorem rule_of {H : Type} {enc : TypeId × Value → H} {W : World} {fuel : Nat} {cs : List Value} {d : DataW H} {p : List MemPlace}
    (hf : DataW.trod enc Tryd.prog W 0 (fun _ => true) true fuel 39 cs = some (d, p)) (hz : ∀ n ∈ d.weights Tryd.prog 39, n ≤ reachBytes) :
    ∃ (x : Option Addr) (c : Nat) (r : Ra), cs = [.slice x r.ms.length c, .int .i64 r.act] ∧ Mats W x c r.ms ∧ (-9223372036854775808 ≤ r.act ∧ r.act ≤ 9223372036854775807) := by
  obtain ⟨xs, n, _, hd, hsz, hx, hF⟩ := DataW.trod_struct Tryd.underlying39 hf
  rw [cells_rule] at hsz
  obtain ⟨a0, a1, rfl⟩ := two hsz
  simp only [Prod.mk.injEq] at hd
  obtain ⟨rfl, _⟩ := hd
  have hx2 : xs.length = 2 := hx
  obtain ⟨y0, y1, rfl⟩ := two hx2
  have f0 : DataW.trod enc Tryd.prog W 0 (fun _ => true) true n 37 (([a0, a1].drop 0).take (Tryd.prog.cellsOf 37)) = some y0 := hF 0 _ rfl
  have f1 : DataW.trod enc Tryd.prog W 0 (fun _ => true) true n 3 (([a0, a1].drop 1).take (Tryd.prog.cellsOf 3)) = some y1 := hF 1 _ rfl
  rw [cells_matches] at f0
  have f0' : DataW.trod enc Tryd.prog W 0 (fun _ => true) true n 37 [a0] = some y0 := f0
  clear f0
  obtain ⟨n1, e1, _, w1⟩ := DataW.trod_int Tryd.underlying3 f1
  rw [cells_int] at e1
  obtain rfl := one_cell e1 rfl
  obtain ⟨s0, s1, s2, rfl⟩ := a_slice Tryd.underlying37 f0'
  obtain ⟨d0, p0⟩ := y0
  have hw : ∀ m ∈ DataW.weightsEach Tryd.prog [37, 3] [d0, y1.1], m ≤ reachBytes := fun m hm => hz m (by
    simp only [DataW.weights, Tryd.underlying39]
    exact hm)
  obtain ⟨M, hM, hS, _⟩ := matches_of f0' (fun m hm => hw m (DataW.weights_mem_each (j := 0) (t := 37) rfl rfl m hm))
  subst hM
  exact ⟨s0, s2, ⟨M, n1⟩, rfl, hS, wf_i64 w1⟩

theorem rules_of {H : Type} {enc : TypeId × Value → H} {W : World} {x : Option Addr} {len cap fuel : Nat} {d : DataW H} {p : List MemPlace}
    (hf : DataW.trod enc Tryd.prog W 0 (fun _ => true) true fuel 22 [Value.slice x len cap] = some (d, p)) (hz : ∀ n ∈ d.weights Tryd.prog 22, n ≤ reachBytes) :
    ∃ rs : List Ra, rs.length = len ∧ Ras W x cap rs ∧ rs.length * 32 ≤ 140737488351232 := by
  rcases DataW.trod_slice Tryd.underlying22 hf with ⟨hc, _⟩ | ⟨a, l, c, elems, rest, n, _, hc, hd, _, hlc, _, hel, hE, hR, _⟩
  · simp only [List.cons.injEq, Value.slice.injEq, and_true] at hc
    obtain ⟨rfl, rfl, rfl⟩ := hc
    exact ⟨[], rfl, Ras.nil W none 0, by simp⟩
  · simp only [List.cons.injEq, Value.slice.injEq, and_true] at hc
    obtain ⟨rfl, rfl, rfl⟩ := hc
    simp only [Prod.mk.injEq] at hd
    obtain ⟨rfl, _⟩ := hd
    have hr : reachBytes = 140737488351232 := by decide
    have hw : (len + rest.length) * 32 ≤ reachBytes := by
      refine hz _ ?_
      simp only [DataW.weights, Tryd.underlying22, bytes_rule, List.length_map, hel]
      exact List.mem_cons_self
    rw [cells_rule] at hE
    have hall : ∀ i, i < len → ∃ r : Ra, (-9223372036854775808 ≤ r.act ∧ r.act ≤ 9223372036854775807) ∧ ∃ y s, W.cell? ((a.add (i * 2)).add 0) = some (.slice y r.ms.length s) ∧ W.cell? ((a.add (i * 2)).add 1) = some (.int .i64 r.act) ∧ Mats W y s r.ms := by
      intro i hi
      have h1 := hE i hi
      have he : elems[i]? = some elems[i] := List.getElem?_eq_getElem (by omega)
      rw [he] at h1
      cases hcs : W.cells? 0 (a.add (i * 2)) 2 with
      | none => rw [hcs] at h1; cases h1
      | some cs =>
        rw [hcs] at h1
        have h2 : DataW.trod enc Tryd.prog W 0 (fun _ => true) true n 39 cs = some (elems[i].1, elems[i].2) := h1
        obtain ⟨y, s, r, rfl, hS, w0⟩ := rule_of h2 (fun m hm => hz m (by
          simp only [DataW.weights, Tryd.underlying22]
          refine List.mem_cons_of_mem _ (List.mem_append_left _ (weights_in _ i elems[i].1 ?_ m hm))
          rw [List.getElem?_map, he]
          rfl))
        have hc := (World.cells?_some hcs).2.2
        exact ⟨r, w0, y, s, hc 0 (by decide), hc 1 (by decide), hS⟩
    obtain ⟨qs, hq, hp⟩ := a_list len hall
    refine ⟨qs, hq, ⟨by omega, by omega, ?_, ?_⟩, by omega⟩
    · intro m hm
      obtain ⟨i, hi, rfl⟩ := List.getElem_of_mem hm
      exact (hp i hi).1
    rcases Nat.eq_zero_or_pos len with h0 | h0
    · left; exact List.length_eq_zero_iff.1 (by omega)
    · right
      obtain ⟨b, off, spot⟩ := a
      obtain ⟨_, y, s, k1, _⟩ := hp 0 (by omega)
      have hspot : spot = none := by simpa [Addr.add] using World.cell?_spot k1
      subst hspot
      refine ⟨b, off, rfl, ?_, fun i hi => ?_⟩
      · simpa [Addr.add] using lt_of_cell k1
      · obtain ⟨_, y, s, k1, k2, k3⟩ := hp i hi
        simp only [add_plain, Nat.add_zero] at k1 k2
        exact ⟨y, s, k1, k2, k3⟩

end Go.Proofs.YtnbabdfcamdapaaDoor.Ru

namespace Go.Proofs.YtnbabdfcamdapaaDoor.Ru
open Go.RowKit Go.Deep

/-- The faults of some rules. -/
def faults (rs : List Ra) : List Int := rs.map fun r => ruleE r.ms

/-- Which is wrong, and how. -/
def chainE (rs : List Ra) : Int × Int := if 50 < rs.length then (0, 7) else Ch.wrong (faults rs)

open Classical in
/-- Does a rule without a fault hold of a query? -/
noncomputable def holdN (q : Qy) (ms : List Mt) : Bool := if h : ∃ tr, flat tr = ms ∧ wf tr then ev q h.choose else false

theorem holdN_of {q : Qy} {tr : T} (hw : wf tr) : holdN q (flat tr) = ev q tr := by
  have h : ∃ t, flat t = flat tr ∧ wf t := ⟨tr, rfl, hw⟩
  unfold holdN
  rw [dif_pos h, flat_inj h.choose_spec.2 hw h.choose_spec.1]

/-- Which of them hold. -/
noncomputable def holds (q : Qy) (rs : List Ra) : List Bool := rs.map fun r => holdN q r.ms

/-- The first that holds; 0 where one is wrong. -/
noncomputable def chainR (q : Qy) (rs : List Ra) : Int := if (chainE rs).2 = 0 then Ch.first (holds q rs) else 0

/-- What is done; 0 where one is wrong. -/
noncomputable def chainD (q : Qy) (other : Int) (rs : List Ra) : Int := if (chainE rs).2 = 0 then Ch.act other (rs.map fun r => (holdN q r.ms, r.act)) else 0

/-- None is wrong: each is right, and there are no more than fifty. -/
theorem chainE_zero {rs : List Ra} : (chainE rs).2 = 0 ↔ rs.length ≤ 50 ∧ ∀ r ∈ rs, ruleE r.ms = 0 := by
  unfold chainE faults
  split
  · rename_i h
    constructor
    · intro k; simp at k
    · rintro ⟨k, _⟩; omega
  · rename_i h
    rw [Ch.wrong_none]
    constructor
    · intro k; exact ⟨by omega, fun r hr => k _ (List.mem_map.2 ⟨r, hr, rfl⟩)⟩
    · rintro ⟨_, k⟩ e he
      obtain ⟨r, hr, rfl⟩ := List.mem_map.1 he
      exact k r hr

theorem chainE_fst {rs : List Ra} (h : (chainE rs).2 = 0) : chainE rs = (0, 0) := by
  unfold chainE at h ⊢
  split
  · rename_i k; rw [if_pos k] at h; simp at h
  · rename_i k; rw [if_neg k] at h; exact Ch.wrong_zero h

theorem chainR_first {q : Qy} {rs : List Ra} (h : (chainE rs).2 = 0) : chainR q rs = Ch.first (holds q rs) := if_pos h

theorem chainD_act {q : Qy} {rs : List Ra} {other : Int} (h : (chainE rs).2 = 0) : chainD q other rs = Ch.act other (rs.map fun r => (holdN q r.ms, r.act)) := if_pos h

theorem acts_get {q : Qy} {rs : List Ra} {i : Nat} {other d : Int} (h : Ch.first (holds q rs) = (i : Int)) (hd : Ch.act other (rs.map fun r => (holdN q r.ms, r.act)) = d) : ∃ hi : i < rs.length, rs[i].act = d := by
  have e : (rs.map fun r => (holdN q r.ms, r.act)).map (·.1) = holds q rs := by simp [holds, Function.comp_def]
  obtain ⟨b, hb⟩ := Ch.act_first other (rs.map fun r => (holdN q r.ms, r.act)) i (by rw [e]; exact h)
  rw [List.getElem?_map, Option.map_eq_some_iff] at hb
  obtain ⟨r, hr, hp⟩ := hb
  obtain ⟨hi, hg⟩ := List.getElem?_eq_some_iff.1 hr
  simp only [Prod.mk.injEq] at hp
  exact ⟨hi, by rw [hg, hp.2, hd]⟩

theorem acts_none {q : Qy} {rs : List Ra} {other : Int} (h : Ch.first (holds q rs) < 0) : Ch.act other (rs.map fun r => (holdN q r.ms, r.act)) = other := by
  refine Ch.act_none _ _ fun x hx => ?_
  obtain ⟨r, hr, rfl⟩ := List.mem_map.1 hx
  exact (Ch.first_none _).1 h _ (List.mem_map.2 ⟨r, hr, rfl⟩)

end Go.Proofs.YtnbabdfcamdapaaDoor.Ru
