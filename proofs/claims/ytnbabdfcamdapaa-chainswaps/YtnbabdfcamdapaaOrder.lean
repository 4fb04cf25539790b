/-
  Plain facts on orders of lists, with no program in sight: a comparison that is one of -1, 0, 1, turns its sign when turned round, and is transitive, gives such a one on lists (the first place that differs decides; a list that ends is ahead); of labels (small letters for great ones) and of names (from the last label on).
-/
namespace Go.Proofs.Ytnbabdfcamdapaa.Nm

/-- The number of two numbers: which one is ahead. -/
def cmpI (x y : Int) : Int := if x < y then -1 else if y < x then 1 else 0

/-- A small letter for a great one. -/
def foI (n : Int) : Int := if 65 ≤ n ∧ n ≤ 90 then n + 32 else n

/-- Lists, place by place. -/
def lex {α : Type} (c : α → α → Int) : List α → List α → Int
  | [], [] => 0
  | [], _ :: _ => -1
  | _ :: _, [] => 1
  | x :: xs, y :: ys => if c x y = 0 then lex c xs ys else c x y

structure Row {α : Type} (c : α → α → Int) : Prop where
  bounds : ∀ x y, -1 ≤ c x y ∧ c x y ≤ 1
  turn : ∀ x y, c x y = - c y x
  chain : ∀ x y z, c x y ≤ 0 → c y z ≤ 0 → c x z ≤ 0

theorem Row.self {α : Type} {c : α → α → Int} (h : Row c) (x : α) : c x x = 0 := by
  have := h.turn x x; omega

theorem Row.less {α : Type} {c : α → α → Int} (h : Row c) {x y z : α} (a : c x y ≤ 0) (b : c y z ≤ 0) (d : c x z = 0) : c x y = 0 ∧ c y z = 0 := by
  have e1 := h.turn x z
  have e2 := h.chain y z x b (by omega)
  have e3 := h.turn x y
  have e4 := h.chain z x y (by omega) a
  have e5 := h.turn y z
  omega

theorem cmpI_row : Row cmpI := by
  refine ⟨fun x y => ?_, fun x y => ?_, fun x y z => ?_⟩ <;> unfold cmpI <;> (repeat' split) <;> omega

theorem cmpI_zero (x y : Int) : cmpI x y = 0 ↔ x = y := by
  unfold cmpI; (repeat' split) <;> omega

theorem row_of {α β : Type} {c : β → β → Int} (h : Row c) (f : α → β) : Row (fun x y => c (f x) (f y)) :=
  ⟨fun _ _ => h.bounds _ _, fun _ _ => h.turn _ _, fun _ _ _ => h.chain _ _ _⟩

theorem lex_row {α : Type} {c : α → α → Int} (h : Row c) : Row (lex c) := by
  refine ⟨?_, ?_, ?_⟩
  · intro x
    induction x with
    | nil => intro y; cases y <;> simp [lex]
    | cons a l ih =>
      intro y
      cases y with
      | nil => simp [lex]
      | cons b m =>
        have := h.bounds a b
        have := ih m
        simp only [lex]; split <;> omega
  · intro x
    induction x with
    | nil => intro y; cases y <;> simp [lex]
    | cons a l ih =>
      intro y
      cases y with
      | nil => simp [lex]
      | cons b m =>
        have e := h.turn a b
        have := ih m
        simp only [lex]
        by_cases k : c a b = 0
        · rw [if_pos k, if_pos (by omega)]; exact this
        · rw [if_neg k, if_neg (by omega)]; exact e
  · intro x
    induction x with
    | nil => intro y z _ _; cases z <;> simp [lex]
    | cons a l ih =>
      intro y z
      cases y with
      | nil => intro e; simp [lex] at e
      | cons b m =>
        cases z with
        | nil => intro _ e; simp [lex] at e
        | cons d n =>
          simp only [lex]
          have hb1 := h.bounds a b
          have hb2 := h.bounds b d
          intro e1 e2
          by_cases k1 : c a b = 0
          · rw [if_pos k1] at e1
            by_cases k2 : c b d = 0
            · rw [if_pos k2] at e2
              have k3 : c a d = 0 := by
                have q1 := h.chain a b d (by omega) (by omega)
                have q2 := h.chain d b a (by have := h.turn d b; omega) (by have := h.turn b a; omega)
                have := h.turn a d; omega
              rw [if_pos k3]; exact ih m n e1 e2
            · rw [if_neg k2] at e2
              have q1 := h.chain a b d (by omega) (by omega)
              by_cases k3 : c a d = 0
              · have := h.less (x := a) (y := b) (z := d) (by omega) (by omega) k3; omega
              · rw [if_neg k3]; exact q1
          · rw [if_neg k1] at e1
            have q0 : c b d ≤ 0 := by
              by_cases k2 : c b d = 0
              · omega
              · rw [if_neg k2] at e2; exact e2
            have q1 := h.chain a b d (by omega) q0
            by_cases k3 : c a d = 0
            · have := h.less (x := a) (y := b) (z := d) (by omega) q0 k3; omega
            · rw [if_neg k3]; exact q1

theorem lex_zero {α β : Type} {c : α → α → Int} (f : α → β) (h : ∀ x y, c x y = 0 ↔ f x = f y) : ∀ x y : List α, lex c x y = 0 ↔ x.map f = y.map f := by
  intro x
  induction x with
  | nil => intro y; cases y <;> simp [lex]
  | cons a l ih =>
    intro y
    cases y with
    | nil => simp [lex]
    | cons b m =>
      have e := h a b
      have i := ih m
      simp only [lex, List.map_cons, List.cons.injEq]
      by_cases k : c a b = 0
      · rw [if_pos k, i]; simp [e.1 k]
      · rw [if_neg k]; exact ⟨fun q => absurd q k, fun q => absurd (e.2 q.1) k⟩

/-- While the first places are alike, what is behind them decides. -/
theorem lex_step {α : Type} {c : α → α → Int} {x y : List α} {k : Nat} (hx : k < x.length) (hy : k < y.length) (e : c x[k] y[k] = 0) : lex c (x.drop k) (y.drop k) = lex c (x.drop (k + 1)) (y.drop (k + 1)) := by
  rw [List.drop_eq_getElem_cons hx, List.drop_eq_getElem_cons hy]
  simp only [lex]; rw [if_pos e]

theorem lex_here {α : Type} {c : α → α → Int} {x y : List α} {k : Nat} (hx : k < x.length) (hy : k < y.length) (e : ¬ c x[k] y[k] = 0) : lex c (x.drop k) (y.drop k) = c x[k] y[k] := by
  rw [List.drop_eq_getElem_cons hx, List.drop_eq_getElem_cons hy]
  simp only [lex]; rw [if_neg e]

theorem lex_end {α : Type} {c : α → α → Int} {x y : List α} {k : Nat} (hx : k ≤ x.length) (hy : k ≤ y.length) (e : x.length ≤ k ∨ y.length ≤ k) : lex c (x.drop k) (y.drop k) = cmpI x.length y.length := by
  unfold cmpI
  rcases Nat.lt_trichotomy x.length y.length with h | h | h
  · rw [List.drop_of_length_le (l := x) (by omega), List.drop_eq_getElem_cons (l := y) (by omega)]
    simp only [lex]; rw [if_pos (by omega)]
  · rw [List.drop_of_length_le (l := x) (by omega), List.drop_of_length_le (l := y) (by omega)]
    simp only [lex]; rw [if_neg (by omega), if_neg (by omega)]
  · rw [List.drop_of_length_le (l := y) (by omega), List.drop_eq_getElem_cons (l := x) (by omega)]
    simp only [lex]; rw [if_neg (by omega), if_pos (by omega)]

/-- A list whose beginning is another one is not ahead of it. -/
theorem lex_front {α : Type} {c : α → α → Int} : ∀ x y : List α, y.length ≤ x.length → lex c (x.take y.length) y = 0 → 0 ≤ lex c x y := by
  intro x
  induction x with
  | nil => intro y hy _; cases y with
    | nil => simp [lex]
    | cons _ _ => simp at hy
  | cons a l ih =>
    intro y hy
    cases y with
    | nil => simp [lex]
    | cons b m =>
      simp only [List.length_cons, List.take_succ_cons, lex]
      by_cases k : c a b = 0
      · rw [if_pos k, if_pos k]; exact ih m (by simpa using hy)
      · rw [if_neg k, if_neg k]; intro q; omega

/-! ### Labels and names -/

/-- The bytes of a label, as numbers. -/
def bs (s : ByteArray) : List Int := s.data.toList.map fun c => (c.toNat : Int)

def cB (x y : Int) : Int := cmpI (foI x) (foI y)
/-- Two labels. -/
def cL (a b : ByteArray) : Int := lex cB (bs a) (bs b)
/-- Two names: from the last label on. -/
def cN (a b : List ByteArray) : Int := lex cL a.reverse b.reverse

/-- A label with small letters, as numbers. -/
def fL (s : ByteArray) : List Int := (bs s).map foI

theorem cB_row : Row cB := row_of cmpI_row foI
theorem cL_row : Row cL := row_of (lex_row cB_row) bs
theorem cN_row : Row cN := row_of (lex_row cL_row) List.reverse

theorem cL_zero (a b : ByteArray) : cL a b = 0 ↔ fL a = fL b := lex_zero foI (fun x y => cmpI_zero (foI x) (foI y)) _ _

theorem cN_zero (a b : List ByteArray) : cN a b = 0 ↔ a.map fL = b.map fL := by
  unfold cN
  rw [lex_zero fL cL_zero, List.map_reverse, List.map_reverse]
  exact ⟨fun h => List.reverse_inj.1 h, fun h => by rw [h]⟩

/-- The last labels of one are those of the other one. -/
def under (a b : List ByteArray) : Bool := decide (b.length ≤ a.length) && (cN (a.drop (a.length - b.length)) b == 0)

theorem under_iff (a b : List ByteArray) : under a b = true ↔ b.length ≤ a.length ∧ (a.drop (a.length - b.length)).map fL = b.map fL := by
  unfold under
  rw [Bool.and_eq_true, decide_eq_true_iff, beq_iff_eq, cN_zero]

/-- .. as lists of folded labels: a suffix. -/
theorem under_suffix (a b : List ByteArray) : under a b = true ↔ b.map fL <:+ a.map fL := by
  rw [under_iff]
  constructor
  · rintro ⟨_, e⟩
    rw [← e, List.map_drop]
    exact List.drop_suffix _ _
  · intro h
    have hl := h.length_le
    simp only [List.length_map] at hl
    refine ⟨hl, ?_⟩
    have := List.suffix_iff_eq_drop.1 h
    rw [List.map_drop, this]
    simp

theorem under_ahead (a b : List ByteArray) (h : under a b = true) : 0 ≤ cN a b := by
  obtain ⟨hl, e⟩ := (under_iff a b).1 h
  have e2 := (cN_zero _ _).2 e
  unfold cN at e2 ⊢
  refine lex_front _ _ (by simpa using hl) ?_
  rw [List.reverse_drop] at e2
  have : a.length - (a.length - b.length) = b.length := by omega
  rw [this] at e2
  simpa using e2

theorem under_both (a b : List ByteArray) : (under a b && under b a) = (cN a b == 0) := by
  rw [Bool.eq_iff_iff, Bool.and_eq_true, beq_iff_eq, cN_zero, under_suffix, under_suffix]
  constructor
  · rintro ⟨h1, h2⟩
    exact (h2.eq_of_length (Nat.le_antisymm h2.length_le h1.length_le))
  · intro h; rw [h]; exact ⟨List.suffix_refl _, List.suffix_refl _⟩

theorem under_self (a : List ByteArray) : under a a = true := (under_suffix a a).2 (List.suffix_refl _)
theorem under_nil (a : List ByteArray) : under a [] = true := (under_suffix a []).2 (List.nil_suffix)
theorem under_chain (a b c : List ByteArray) (h : under a b = true) (k : under b c = true) : under a c = true :=
  (under_suffix a c).2 (((under_suffix b c).1 k).trans ((under_suffix a b).1 h))

theorem foI_twice (n : Int) : foI (foI n) = foI n := by
  unfold foI; (repeat' split) <;> omega

theorem foI_bound (n : Int) (h : 0 ≤ n) (k : n ≤ 255) : 0 ≤ foI n ∧ foI n ≤ 255 := by
  unfold foI; (repeat' split) <;> omega

end Go.Proofs.Ytnbabdfcamdapaa.Nm
