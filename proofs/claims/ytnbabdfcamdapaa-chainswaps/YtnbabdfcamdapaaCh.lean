/-
  Rules in a row, plain: the first that holds, and what is done (stage 13).
-/
namespace Go.Proofs.Ytnbabdfcamdapaa.Ch

/-- The place of the first that holds; -1: none does. -/
def first : List Bool → Int
  | [] => -1
  | true :: _ => 0
  | false :: l => if first l < 0 then -1 else first l + 1

theorem first_lo (l : List Bool) : -1 ≤ first l := by
  induction l with
  | nil => simp [first]
  | cons b l ih => cases b <;> simp only [first] <;> (try split) <;> omega

theorem first_hi (l : List Bool) : first l < (l.length : Int) := by
  induction l with
  | nil => simp [first]
  | cons b l ih => cases b <;> simp only [first, List.length_cons] <;> (try split) <;> omega

/-- None of those does. -/
theorem first_none (l : List Bool) : first l < 0 ↔ ∀ b ∈ l, b = false := by
  induction l with
  | nil => simp [first]
  | cons b l ih =>
    cases b
    · simp only [first, List.mem_cons, forall_eq_or_imp, true_and, ← ih]
      split
      · constructor <;> intro _ <;> first | assumption | omega
      · constructor <;> intro _ <;> omega
    · simp [first]

theorem first_neg {l : List Bool} (h : first l < 0) : first l = -1 := by have := first_lo l; omega

/-- It holds, none ahead of it does. -/
theorem first_is (l : List Bool) (i : Nat) : first l = (i : Int) ↔ l[i]? = some true ∧ ∀ j, j < i → l[j]? = some false := by
  induction l generalizing i with
  | nil => simp [first]
  | cons b l ih =>
    cases b
    · simp only [first]
      cases i with
      | zero =>
        have := first_lo l
        simp only [List.getElem?_cons_zero]
        constructor
        · intro h; split at h <;> omega
        · rintro ⟨h, _⟩; simp at h
      | succ i =>
        have e : (if first l < 0 then -1 else first l + 1) = ((i + 1 : Nat) : Int) ↔ first l = (i : Int) := by
          have := first_lo l
          split <;> omega
        rw [e, ih i, List.getElem?_cons_succ]
        constructor
        · rintro ⟨h1, h2⟩
          refine ⟨h1, fun j hj => ?_⟩
          cases j with
          | zero => rfl
          | succ j => rw [List.getElem?_cons_succ]; exact h2 j (by omega)
        · rintro ⟨h1, h2⟩
          exact ⟨h1, fun j hj => by have := h2 (j + 1) (by omega); rwa [List.getElem?_cons_succ] at this⟩
    · simp only [first]
      cases i with
      | zero => simp
      | succ i =>
        constructor
        · intro h; omega
        · rintro ⟨_, h⟩; have := h 0 (by omega); simp at this

/-- Rules behind it change nothing. -/
theorem first_append (l m : List Bool) : first (l ++ m) = if 0 ≤ first l then first l else if first m < 0 then -1 else first m + l.length := by
  induction l with
  | nil => simp only [List.nil_append, first, List.length_nil, Int.natCast_zero, Int.add_zero]; have := first_lo m; split <;> (try split) <;> omega
  | cons b l ih =>
    cases b
    · simp only [List.cons_append, first, ih, List.length_cons]
      have := first_lo l; have := first_lo m
      repeat (first | omega | split)
    · simp [first]

theorem first_more {l : List Bool} (m : List Bool) (h : 0 ≤ first l) : first (l ++ m) = first l := by rw [first_append, if_pos h]

/-- What stands at each place, in a round. -/
theorem first_snoc (l : List Bool) (b : Bool) : first (l ++ [b]) = if 0 ≤ first l then first l else if b then (l.length : Int) else -1 := by
  rw [first_append]; cases b <;> simp [first]

theorem first_cons_true (l : List Bool) : first (true :: l) = 0 := rfl

theorem first_cons_false (l : List Bool) : first (false :: l) = if first l < 0 then -1 else first l + 1 := rfl

/-- What is done: what the first that holds has, or other. -/
def act (other : Int) : List (Bool × Int) → Int
  | [] => other
  | (true, d) :: _ => d
  | (false, _) :: l => act other l

theorem act_none (other : Int) (l : List (Bool × Int)) (h : ∀ x ∈ l, x.1 = false) : act other l = other := by
  induction l with
  | nil => rfl
  | cons x l ih =>
    obtain ⟨b, d⟩ := x
    have : b = false := h (b, d) List.mem_cons_self
    subst this
    exact ih fun y hy => h y (List.mem_cons_of_mem _ hy)

theorem act_first (other : Int) (l : List (Bool × Int)) (i : Nat) (h : first (l.map (·.1)) = (i : Int)) : ∃ b, l[i]? = some (b, act other l) := by
  induction l generalizing i with
  | nil => simp [first] at h
  | cons x l ih =>
    obtain ⟨b, d⟩ := x
    cases b
    · simp only [List.map_cons, first] at h
      have := first_lo (l.map (·.1))
      split at h
      · omega
      · cases i with
        | zero => omega
        | succ i => rw [List.getElem?_cons_succ]; exact ih i (by omega)
    · simp only [List.map_cons, first] at h
      have : i = 0 := by omega
      subst this
      exact ⟨true, rfl⟩

theorem act_append (other : Int) (l m : List (Bool × Int)) : act other (l ++ m) = act (act other m) l := by
  induction l with
  | nil => rfl
  | cons x l ih => obtain ⟨b, d⟩ := x; cases b <;> simp [act, ih]

/-- Two in a row that do the same, or do not both hold, may change their places. -/
theorem act_pair (other : Int) (x y : Bool × Int) (l : List (Bool × Int)) (h : ¬ (x.1 = true ∧ y.1 = true) ∨ x.2 = y.2) : act other (x :: y :: l) = act other (y :: x :: l) := by
  obtain ⟨a, d⟩ := x
  obtain ⟨b, e⟩ := y
  cases a <;> cases b <;> simp_all [act]

/-- Two neighbours changed. -/
theorem swap_split {α : Type} (l : List α) (k : Nat) {x y : α} (hx : l[k]? = some x) (hy : l[k + 1]? = some y) :
    l = l.take k ++ x :: y :: l.drop (k + 2) ∧ (l.set k y).set (k + 1) x = l.take k ++ y :: x :: l.drop (k + 2) := by
  induction l generalizing k with
  | nil => simp at hx
  | cons a l ih =>
    cases k with
    | zero =>
      cases l with
      | nil => simp at hy
      | cons b l =>
        simp only [List.getElem?_cons_zero, Option.some.injEq, List.getElem?_cons_succ] at hx hy
        subst hx; subst hy
        exact ⟨by simp, by simp⟩
    | succ k =>
      rw [List.getElem?_cons_succ] at hx hy
      obtain ⟨h1, h2⟩ := ih k hx hy
      refine ⟨?_, ?_⟩
      · rw [List.take_succ_cons, List.drop_succ_cons, List.cons_append, ← h1]
      · rw [List.set_cons_succ, List.set_cons_succ, List.take_succ_cons, List.drop_succ_cons, List.cons_append, ← h2]

theorem act_swap (other : Int) (l : List (Bool × Int)) (k : Nat) {x y : Bool × Int} (hx : l[k]? = some x) (hy : l[k + 1]? = some y) (h : ¬ (x.1 = true ∧ y.1 = true) ∨ x.2 = y.2) :
    act other ((l.set k y).set (k + 1) x) = act other l := by
  obtain ⟨h1, h2⟩ := swap_split l k hx hy
  rw [h2]
  conv => rhs; rw [h1]
  rw [act_append, act_append, act_pair _ x y _ h]

/-- The first that is wrong, and how. -/
def wrong : List Int → Int × Int
  | [] => (0, 0)
  | e :: l => if e = 0 then (let p := wrong l; if p.2 = 0 then (0, 0) else (p.1 + 1, p.2)) else (0, e)

theorem wrong_none (l : List Int) : (wrong l).2 = 0 ↔ ∀ e ∈ l, e = 0 := by
  induction l with
  | nil => simp [wrong]
  | cons e l ih =>
    simp only [wrong]
    by_cases h : e = 0
    · subst h
      simp only [if_true, List.mem_cons, forall_eq_or_imp, true_and, ← ih]
      split <;> simp_all
    · simp [h]

theorem wrong_zero {l : List Int} (h : (wrong l).2 = 0) : wrong l = (0, 0) := by
  cases l with
  | nil => rfl
  | cons e l =>
    simp only [wrong] at h ⊢
    split
    · rename_i he
      rw [if_pos he] at h
      split
      · rfl
      · rename_i hn; rw [if_neg hn] at h; exact absurd h hn
    · rename_i he; rw [if_neg he] at h; exact absurd h he

/-- All ahead are right, and this one is not: it is the one. -/
theorem wrong_at (l m : List Int) (e : Int) (h : ∀ x ∈ l, x = 0) (he : e ≠ 0) : wrong (l ++ e :: m) = ((l.length : Int), e) := by
  induction l with
  | nil => simp [wrong, he]
  | cons x l ih =>
    have hx : x = 0 := h x List.mem_cons_self
    subst hx
    have := ih fun y hy => h y (List.mem_cons_of_mem _ hy)
    simp only [List.cons_append, wrong, this, if_true, if_neg he, List.length_cons]
    simp

/-- The same, by places. -/
theorem wrong_get {l : List Int} {i : Nat} {e : Int} (h : ∀ j, j < i → l[j]? = some 0) (hi : l[i]? = some e) (he : e ≠ 0) : wrong l = ((i : Int), e) := by
  have hl : i < l.length := (List.getElem?_eq_some_iff.1 hi).1
  have e1 : l = l.take i ++ e :: l.drop (i + 1) := by
    obtain ⟨_, hg⟩ := List.getElem?_eq_some_iff.1 hi
    rw [← hg, List.getElem_cons_drop, List.take_append_drop]
  rw [e1, wrong_at _ _ _ (fun x hx => ?_) he, List.length_take, Nat.min_eq_left (Nat.le_of_lt hl)]
  obtain ⟨j, hj⟩ := List.mem_iff_getElem?.1 hx
  rw [List.getElem?_take] at hj
  split at hj
  · rename_i hji; have := h j hji; rw [this] at hj; exact (Option.some.inj hj).symm
  · cases hj

end Go.Proofs.Ytnbabdfcamdapaa.Ch
