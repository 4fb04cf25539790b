/-
  Plain facts on values for names: the last value that was put for a name, how many unlike names there are, the longest end.
-/
import Derived.Test.YtclkhegdbikcoaaDoorText
import Derived.Test.YtclkhegdbikcoaaDoorOrder
namespace Go.Proofs.YtclkhegdbikcoaaDoor.Tl

/-- The last value that was put for a name. -/
def valT (E : List (List ByteArray × Int)) (m : List ByteArray) : Option Int := (E.reverse.find? fun e => Nm.cN e.1 m == 0).map (·.2)

theorem valT_nil (m : List ByteArray) : valT [] m = none := rfl

theorem valT_snoc (E : List (List ByteArray × Int)) (e : List ByteArray × Int) (m : List ByteArray) : valT (E ++ [e]) m = if Nm.cN e.1 m = 0 then some e.2 else valT E m := by
  unfold valT
  rw [List.reverse_append, List.reverse_singleton, List.singleton_append, List.find?_cons]
  by_cases c : Nm.cN e.1 m = 0
  · rw [if_pos c]; simp [c]
  · rw [if_neg c]
    have : (Nm.cN e.1 m == 0) = false := by simpa using c
    rw [this]

theorem same_turn {a b : List ByteArray} : Nm.cN a b = 0 ↔ Nm.cN b a = 0 := by
  rw [Nm.cN_zero, Nm.cN_zero]; exact ⟨Eq.symm, Eq.symm⟩

theorem same_len {a b : List ByteArray} (h : Nm.cN a b = 0) : a.length = b.length := by
  have := congrArg List.length ((Nm.cN_zero a b).1 h)
  simpa using this

theorem same_of {a b c : List ByteArray} (h : Nm.cN b c = 0) : Nm.cN a b = 0 ↔ Nm.cN a c = 0 := by
  rw [Nm.cN_zero] at *
  rw [Nm.cN_zero, h]

theorem valT_same {E : List (List ByteArray × Int)} {m m' : List ByteArray} (h : Nm.cN m m' = 0) : valT E m = valT E m' := by
  unfold valT
  congr 1
  congr 1
  funext e
  have := same_of (a := e.1) h
  by_cases c : Nm.cN e.1 m = 0
  · rw [c, this.1 c]
  · have d : ¬ Nm.cN e.1 m' = 0 := fun q => c (this.2 q)
    rw [show (Nm.cN e.1 m == 0) = false by simpa using c, show (Nm.cN e.1 m' == 0) = false by simpa using d]

theorem valT_mem {E : List (List ByteArray × Int)} {m : List ByteArray} {v : Int} (h : valT E m = some v) : ∃ e ∈ E, Nm.cN e.1 m = 0 ∧ e.2 = v := by
  unfold valT at h
  rw [Option.map_eq_some_iff] at h
  obtain ⟨e, h1, h2⟩ := h
  have h3 := List.find?_some h1
  exact ⟨e, by simpa using List.mem_of_find?_eq_some h1, by simpa using h3, h2⟩

theorem valT_none {E : List (List ByteArray × Int)} {m : List ByteArray} (h : ∀ e ∈ E, ¬ Nm.cN e.1 m = 0) : valT E m = none := by
  cases q : valT E m with
  | none => rfl
  | some v =>
    obtain ⟨e, h1, h2, _⟩ := valT_mem q
    exact absurd h2 (h e h1)

theorem valT_not {E : List (List ByteArray × Int)} {m : List ByteArray} (h : valT E m = none) : ∀ e ∈ E, ¬ Nm.cN e.1 m = 0 := by
  intro e he c
  unfold valT at h
  rw [Option.map_eq_none_iff, List.find?_eq_none] at h
  exact h e (by simpa using he) (by simpa using c)

/-- The longest end: how many labels it has, its value. -/
def getT (E : List (List ByteArray × Int)) : List ByteArray → Option (Nat × Int)
  | [] => (valT E []).map fun v => (0, v)
  | l :: r => match valT E (l :: r) with | some v => some (r.length + 1, v) | none => getT E r

theorem getT_nil (n : List ByteArray) : getT [] n = none := by
  induction n with
  | nil => rfl
  | cons l r ih => unfold getT; rw [valT_nil]; exact ih

theorem getT_le {E : List (List ByteArray × Int)} : ∀ {n : List ByteArray} {c : Nat} {v : Int}, getT E n = some (c, v) → c ≤ n.length := by
  intro n
  induction n with
  | nil =>
    intro c v h
    unfold getT at h
    cases q : valT E [] with
    | none => rw [q] at h; cases h
    | some u => rw [q] at h; simp at h; omega
  | cons l r ih =>
    intro c v h
    unfold getT at h
    cases q : valT E (l :: r) with
    | none => rw [q] at h; have := ih h; simp; omega
    | some u => rw [q] at h; simp at h; simp; omega

theorem getT_here {E : List (List ByteArray × Int)} {n : List ByteArray} {v : Int} (h : valT E n = some v) : getT E n = some (n.length, v) := by
  cases n with
  | nil => unfold getT; rw [h]; rfl
  | cons l r => unfold getT; rw [h]; rfl

theorem getT_next {E : List (List ByteArray × Int)} {l : ByteArray} {r : List ByteArray} (h : valT E (l :: r) = none) : getT E (l :: r) = getT E r := by
  conv => lhs; unfold getT
  rw [h]

theorem getT_none {E : List (List ByteArray × Int)} (h : valT E [] = none) : getT E [] = none := by unfold getT; rw [h]; rfl

theorem getT_drop {E : List (List ByteArray × Int)} {n : List ByteArray} {i : Nat} (hi : i < n.length) (h : valT E (n.drop i) = none) : getT E (n.drop i) = getT E (n.drop (i + 1)) := by
  rw [List.drop_eq_getElem_cons hi] at h ⊢
  exact getT_next h

theorem getT_from {E : List (List ByteArray × Int)} {n : List ByteArray} : ∀ {i : Nat}, i ≤ n.length → (∀ j, j < i → valT E (n.drop j) = none) → getT E n = getT E (n.drop i) := by
  intro i
  induction i with
  | zero => intro _ _; rfl
  | succ i ih =>
    intro hi h
    rw [ih (by omega) (fun j hj => h j (by omega)), getT_drop (by omega) (h i (by omega))]

theorem getT_same {E : List (List ByteArray × Int)} : ∀ {n m : List ByteArray}, Nm.cN n m = 0 → getT E n = getT E m := by
  intro n
  induction n with
  | nil =>
    intro m h
    have := same_len h
    have : m = [] := List.length_eq_zero_iff.1 this.symm
    rw [this]
  | cons l r ih =>
    intro m h
    have hl := same_len h
    cases m with
    | nil => simp at hl
    | cons l' r' =>
      have hr : Nm.cN r r' = 0 := by
        rw [Nm.cN_zero] at h ⊢
        simp only [List.map_cons, List.cons.injEq] at h
        exact h.2
      have hv := valT_same (E := E) h
      unfold getT
      rw [hv, ih hr]
      simp at hl
      rw [hl]

theorem under_cons {l : ByteArray} {r e : List ByteArray} (h : ¬ Nm.cN e (l :: r) = 0) : Nm.under (l :: r) e = Nm.under r e := by
  rw [Bool.eq_iff_iff, Nm.under_suffix, Nm.under_suffix, List.map_cons]
  constructor
  · intro q
    rcases List.suffix_cons_iff.1 q with q | q
    · exact absurd ((Nm.cN_zero _ _).2 (by rw [List.map_cons]; exact q)) h
    · exact q
  · intro q
    exact List.suffix_cons_iff.2 (Or.inr q)

theorem all_of {o : Option (Nat × Int)} {k : Nat} (h : ∀ c v, o = some (c, v) → c ≤ k) : (o.all fun p => decide (p.1 ≤ k)) = true := by
  cases o with
  | none => rfl
  | some p => have := h p.1 p.2 rfl; simpa using this

/-- One more value. -/
theorem getT_snoc (E : List (List ByteArray × Int)) (e : List ByteArray × Int) : ∀ n : List ByteArray,
    getT (E ++ [e]) n = if Nm.under n e.1 = true ∧ ((getT E n).all fun p => decide (p.1 ≤ e.1.length)) = true then some (e.1.length, e.2) else getT E n := by
  intro n
  induction n with
  | nil =>
    by_cases c : Nm.cN e.1 [] = 0
    · have hl := same_len c
      have hu : Nm.under [] e.1 = true := by
        rw [Nm.under_suffix]
        rw [(Nm.cN_zero _ _).1 c]
        exact List.suffix_refl _
      rw [if_pos ⟨hu, all_of fun c v h => by have := getT_le h; simp at this; omega⟩]
      rw [getT_here (v := e.2) (by rw [valT_snoc, if_pos c])]
      rw [hl]
    · have hu : ¬ Nm.under [] e.1 = true := by
        rw [Nm.under_suffix]
        intro q
        apply c
        rw [Nm.cN_zero]
        exact List.suffix_nil.1 q
      rw [if_neg (fun q => hu q.1)]
      unfold getT
      rw [valT_snoc, if_neg c]
  | cons l r ih =>
    by_cases c : Nm.cN e.1 (l :: r) = 0
    · have hl := same_len c
      have hu : Nm.under (l :: r) e.1 = true := by
        rw [Nm.under_suffix]
        rw [(Nm.cN_zero _ _).1 c]
        exact List.suffix_refl _
      rw [if_pos ⟨hu, all_of fun c v h => by have := getT_le h; omega⟩]
      rw [getT_here (v := e.2) (by rw [valT_snoc, if_pos c]), hl]
    · have hv : valT (E ++ [e]) (l :: r) = valT E (l :: r) := by rw [valT_snoc, if_neg c]
      cases q : valT E (l :: r) with
      | some v =>
        rw [getT_here (by rw [hv, q]), getT_here q]
        split
        · rename_i h
          obtain ⟨h1, h2⟩ := h
          have h3 : r.length + 1 ≤ e.1.length := by simpa using h2
          rw [Nm.under_iff] at h1
          have h4 : (l :: r).length - e.1.length = 0 := by rw [List.length_cons]; omega
          rw [h4, List.drop_zero] at h1
          exact absurd ((Nm.cN_zero _ _).2 h1.2.symm) c
        · rfl
      | none =>
        rw [getT_next (by rw [hv, q]), getT_next q, ih, under_cons c]

/-- How many unlike names there are, behind those of a list. -/
def endsT (pre : List (List ByteArray × Int)) : List (List ByteArray × Int) → Nat
  | [] => 0
  | e :: r => (if (pre.any fun x => Nm.cN x.1 e.1 == 0) = true then 0 else 1) + endsT (pre ++ [e]) r

theorem endsT_snoc (l : List (List ByteArray × Int)) (e : List ByteArray × Int) : ∀ pre, endsT pre (l ++ [e]) = endsT pre l + (if ((pre ++ l).any fun x => Nm.cN x.1 e.1 == 0) = true then 0 else 1) := by
  induction l with
  | nil => intro pre; rw [List.nil_append, List.append_nil, endsT, endsT, endsT]; omega
  | cons x l ih =>
    intro pre
    rw [List.cons_append, endsT, endsT, ih, List.append_assoc, List.singleton_append]
    omega

theorem endsT_le (l : List (List ByteArray × Int)) : ∀ pre, endsT pre l ≤ l.length := by
  induction l with
  | nil => intro pre; simp [endsT]
  | cons x l ih =>
    intro pre
    rw [endsT, List.length_cons]
    have := ih (pre ++ [x])
    split <;> omega

theorem any_val (E : List (List ByteArray × Int)) (m : List ByteArray) : (E.any fun x => Nm.cN x.1 m == 0) = (valT E m).isSome := by
  cases q : valT E m with
  | none =>
    have := valT_not q
    rw [Option.isSome_none, List.any_eq_false]
    intro x hx
    simpa using this x hx
  | some v =>
    obtain ⟨e, h1, h2, _⟩ := valT_mem q
    rw [Option.isSome_some, List.any_eq_true]
    exact ⟨e, h1, by simpa using h2⟩

theorem ends_snoc (E : List (List ByteArray × Int)) (e : List ByteArray × Int) : endsT [] (E ++ [e]) = if (valT E e.1).isSome = true then endsT [] E else endsT [] E + 1 := by
  rw [endsT_snoc, List.nil_append, any_val]
  split <;> rfl

/-! ### what may be is told by lengths -/

theorem all_fold (n : List ByteArray) : (n.map Nm.fL).all Nm.okL = (n.map Nm.bs).all Nm.okL := by
  induction n with
  | nil => rfl
  | cons s l ih =>
    rw [List.map_cons, List.map_cons, List.all_cons, List.all_cons, ih]
    have e : (Nm.fL s).length = (Nm.bs s).length := by unfold Nm.fL; rw [List.length_map]
    unfold Nm.okL
    rw [e]

theorem total_fold (n : List ByteArray) : Nm.total (n.map Nm.fL) = Nm.total (n.map Nm.bs) := by
  induction n with
  | nil => rfl
  | cons s l ih =>
    unfold Nm.total at *
    simp only [List.map_cons, List.sum_cons] at *
    have e : (Nm.fL s).length = (Nm.bs s).length := by unfold Nm.fL; rw [List.length_map]
    rw [e, ih]

theorem check_fold (n : List ByteArray) : Nm.checkN (n.map Nm.fL) = Nm.checkN (n.map Nm.bs) := by
  unfold Nm.checkN
  rw [all_fold, total_fold]

theorem check_same {a b : List ByteArray} (h : Nm.cN a b = 0) : Nm.checkN (a.map Nm.bs) = Nm.checkN (b.map Nm.bs) := by
  rw [← check_fold, ← check_fold, (Nm.cN_zero a b).1 h]

/-- Names that may be not have no value. -/
theorem valT_bad {E : List (List ByteArray × Int)} {m : List ByteArray} (hE : ∀ e ∈ E, Nm.checkN (e.1.map Nm.bs) = 0) (h : ¬ Nm.checkN (m.map Nm.bs) = 0) : valT E m = none :=
  valT_none fun e he c => h (by rw [← check_same c]; exact hE e he)

end Go.Proofs.YtclkhegdbikcoaaDoor.Tl
