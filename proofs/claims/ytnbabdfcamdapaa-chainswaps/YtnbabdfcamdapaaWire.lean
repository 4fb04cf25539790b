/-
  Plain facts on names as they are sent, with no program in sight: a message is a list of numbers from 0 to 255; what is read at a place of it; a name that is sent is read; what stands behind does not matter.
-/
import Derived.Test.YtnbabdfcamdapaaText
namespace Go.Proofs.Ytnbabdfcamdapaa.Nm

/-- Where the pointer at a place leads. -/
def place (ms : List Int) (a : Nat) : Nat := ((ms.getD a 0 - 192) * 256 + ms.getD (a + 1) 0).toNat

/-- How many bytes the label at a place has. -/
def long (ms : List Int) (a : Nat) : Nat := (ms.getD a 0).toNat

/-- So many bytes from a place on. -/
def cut (ms : List Int) (a k : Nat) : List Int := (ms.drop a).take k

/-- With a label ahead. -/
def ahead (l : List Int) (r : Int × List (List Int) × Nat) : Int × List (List Int) × Nat := if r.1 = 0 then (0, l :: r.2.1, r.2.2) else (r.1, [], 0)

/-- Ending at a place. -/
def ends (e : Nat) (r : Int × List (List Int) × Nat) : Int × List (List Int) × Nat := if r.1 = 0 then (0, r.2.1, e) else (r.1, [], 0)

/-- What is read from a place on, with pointers to what is ahead of another one, and so many bytes so far: what is wrong (0: nothing), the labels, the place behind them. -/
def rd (ms : List Int) : Nat → Nat → Nat → Nat → Int × List (List Int) × Nat
  | 0, _, _, _ => (2, [], 0)
  | f + 1, a, low, size =>
    if ms.length ≤ a then (2, [], 0)
    else if ms.getD a 0 = 0 then (0, [], a + 1)
    else if 192 ≤ ms.getD a 0 then
      if ms.length ≤ a + 1 then (2, [], 0)
      else if low ≤ place ms a then (4, [], 0)
      else ends (a + 2) (rd ms f (place ms a) (place ms a) size)
    else if 63 < ms.getD a 0 then (3, [], 0)
    else if ms.length ≤ a + long ms a then (2, [], 0)
    else if 255 < size + (long ms a + 1) then (5, [], 0)
    else ahead (cut ms (a + 1) (long ms a)) (rd ms f (a + 1 + long ms a) low (size + (long ms a + 1)))

def fu (ms : List Int) (a low : Nat) : Nat := low * (ms.length + 1) + (ms.length - a) + 1

theorem fu_ptr (ms : List Int) (a low to : Nat) (h : to < low) : fu ms to to + 1 ≤ fu ms a low := by
  unfold fu
  have h1 : (to + 1) * (ms.length + 1) ≤ low * (ms.length + 1) := Nat.mul_le_mul_right _ h
  rw [Nat.succ_mul] at h1
  omega

theorem fu_more (ms : List Int) (a low k : Nat) (h : a < ms.length) : fu ms (a + 1 + k) low + 1 ≤ fu ms a low := by
  unfold fu
  omega

theorem rd_more (ms : List Int) : ∀ (f a low size : Nat), fu ms a low ≤ f → rd ms (f + 1) a low size = rd ms f a low size := by
  intro f
  induction f with
  | zero => intro a low size h; unfold fu at h; omega
  | succ f ih =>
    intro a low size h
    show rd ms (f + 1 + 1) a low size = rd ms (f + 1) a low size
    unfold rd
    by_cases c1 : ms.length ≤ a
    · simp only [if_pos c1]
    · simp only [if_neg c1]
      by_cases c2 : ms.getD a 0 = 0
      · simp only [if_pos c2]
      · simp only [if_neg c2]
        by_cases c3 : 192 ≤ ms.getD a 0
        · simp only [if_pos c3]
          by_cases c4 : ms.length ≤ a + 1
          · simp only [if_pos c4]
          · simp only [if_neg c4]
            by_cases c5 : low ≤ place ms a
            · simp only [if_pos c5]
            · simp only [if_neg c5]
              rw [ih]
              have := fu_ptr ms a low (place ms a) (by omega)
              omega
        · simp only [if_neg c3]
          have := fu_more ms a low (long ms a) (by omega)
          rw [ih _ _ _ (by omega)]

theorem rd_fuel (ms : List Int) (a low size k : Nat) : rd ms (fu ms a low + k) a low size = rd ms (fu ms a low) a low size := by
  induction k with
  | zero => rfl
  | succ k ih => rw [← Nat.add_assoc, rd_more ms _ a low size (by omega), ih]

theorem rd_enough (ms : List Int) (a low size f : Nat) (h : fu ms a low ≤ f) : rd ms f a low size = rd ms (fu ms a low) a low size := by
  obtain ⟨k, rfl⟩ : ∃ k, f = fu ms a low + k := ⟨f - fu ms a low, by omega⟩
  exact rd_fuel ms a low size k

/-- What is read, with no word of how long it takes. -/
def rdA (ms : List Int) (a low size : Nat) : Int × List (List Int) × Nat := rd ms (fu ms a low) a low size

/-! ### One step -/

theorem rdA_eq (ms : List Int) (a low size : Nat) : rdA ms a low size =
    if ms.length ≤ a then (2, [], 0)
    else if ms.getD a 0 = 0 then (0, [], a + 1)
    else if 192 ≤ ms.getD a 0 then
      if ms.length ≤ a + 1 then (2, [], 0)
      else if low ≤ place ms a then (4, [], 0)
      else ends (a + 2) (rdA ms (place ms a) (place ms a) size)
    else if 63 < ms.getD a 0 then (3, [], 0)
    else if ms.length ≤ a + long ms a then (2, [], 0)
    else if 255 < size + (long ms a + 1) then (5, [], 0)
    else ahead (cut ms (a + 1) (long ms a)) (rdA ms (a + 1 + long ms a) low (size + (long ms a + 1))) := by
  have e : rdA ms a low size = rd ms (fu ms a low + 1) a low size := (rd_fuel ms a low size 1).symm
  rw [e]
  unfold rd
  by_cases c1 : ms.length ≤ a
  · simp only [if_pos c1]
  · simp only [if_neg c1]
    by_cases c2 : ms.getD a 0 = 0
    · simp only [if_pos c2]
    · simp only [if_neg c2]
      by_cases c3 : 192 ≤ ms.getD a 0
      · simp only [if_pos c3]
        by_cases c4 : ms.length ≤ a + 1
        · simp only [if_pos c4]
        · simp only [if_neg c4]
          by_cases c5 : low ≤ place ms a
          · simp only [if_pos c5]
          · simp only [if_neg c5]
            have := fu_ptr ms a low (place ms a) (by omega)
            rw [rd_enough ms (place ms a) (place ms a) size (fu ms a low) (by omega)]
            rfl
      · simp only [if_neg c3]
        have := fu_more ms a low (long ms a) (by omega)
        rw [rd_enough ms (a + 1 + long ms a) low _ (fu ms a low) (by omega)]
        rfl

theorem norm_if {c : Prop} [Decidable c] {x y : Int × List (List Int) × Nat} (hx : ¬ x.1 = 0 → x = (x.1, [], 0)) (hy : ¬ y.1 = 0 → y = (y.1, [], 0)) : ¬ (if c then x else y).1 = 0 → (if c then x else y) = ((if c then x else y).1, [], 0) := by
  by_cases h : c
  · rw [if_pos h]; exact hx
  · rw [if_neg h]; exact hy

theorem rdA_norm (ms : List Int) (a low size : Nat) : ¬ (rdA ms a low size).1 = 0 → rdA ms a low size = ((rdA ms a low size).1, [], 0) := by
  rw [rdA_eq]
  refine norm_if (fun _ => rfl) (norm_if (fun q => absurd rfl q) (norm_if (norm_if (fun _ => rfl) (norm_if (fun _ => rfl) ?_)) (norm_if (fun _ => rfl) (norm_if (fun _ => rfl) (norm_if (fun _ => rfl) ?_)))))
  · unfold ends; exact norm_if (fun q => absurd rfl q) (fun _ => rfl)
  · unfold ahead; exact norm_if (fun q => absurd rfl q) (fun _ => rfl)

/-! ### What is read may be -/

theorem ends_ok {e : Nat} {r : Int × List (List Int) × Nat} {L : List (List Int)} {n : Nat} (h : ends e r = (0, L, n)) : r = (0, L, r.2.2) ∧ n = e := by
  obtain ⟨k, M, m⟩ := r
  unfold ends at h
  by_cases c : k = 0
  · simp only [if_pos c, Prod.mk.injEq, true_and] at h
    obtain ⟨h1, h2⟩ := h
    exact ⟨by simp [c, h1], h2.symm⟩
  · simp only [if_neg c, Prod.mk.injEq] at h
    exact absurd h.1 c

theorem ahead_ok {l : List Int} {r : Int × List (List Int) × Nat} {L : List (List Int)} {n : Nat} (h : ahead l r = (0, L, n)) : ∃ M, r = (0, M, n) ∧ L = l :: M := by
  obtain ⟨k, M, m⟩ := r
  unfold ahead at h
  by_cases c : k = 0
  · simp only [if_pos c, Prod.mk.injEq, true_and] at h
    obtain ⟨h1, h2⟩ := h
    exact ⟨M, by simp [c, h2], h1.symm⟩
  · simp only [if_neg c, Prod.mk.injEq] at h
    exact absurd h.1 c

theorem total_cons (l : List Int) (L : List (List Int)) : total (l :: L) = l.length + 1 + total L := by
  unfold total; rw [List.map_cons, List.sum_cons]

theorem cut_length {ms : List Int} {a k : Nat} (h : a + k ≤ ms.length) : (cut ms a k).length = k := by
  unfold cut
  rw [List.length_take, List.length_drop]
  omega

/-- How one that is read begins: it ends here, or a pointer leads on, or a label stands here. -/
theorem rd_cases {ms : List Int} {f a low size : Nat} {L : List (List Int)} {e : Nat} (h : rd ms (f + 1) a low size = (0, L, e)) :
    (a < ms.length ∧ ms.getD a 0 = 0 ∧ L = [] ∧ e = a + 1) ∨
    (a + 1 < ms.length ∧ ¬ ms.getD a 0 = 0 ∧ 192 ≤ ms.getD a 0 ∧ place ms a < low ∧ e = a + 2 ∧ ∃ e', rd ms f (place ms a) (place ms a) size = (0, L, e')) ∨
    (a + long ms a < ms.length ∧ ¬ ms.getD a 0 = 0 ∧ ¬ 192 ≤ ms.getD a 0 ∧ ¬ 63 < ms.getD a 0 ∧ size + (long ms a + 1) ≤ 255 ∧ ∃ M, L = cut ms (a + 1) (long ms a) :: M ∧ rd ms f (a + 1 + long ms a) low (size + (long ms a + 1)) = (0, M, e)) := by
  unfold rd at h
  by_cases c1 : ms.length ≤ a
  · simp only [if_pos c1] at h; simp at h
  · simp only [if_neg c1] at h
    by_cases c2 : ms.getD a 0 = 0
    · simp only [if_pos c2, Prod.mk.injEq, true_and] at h
      exact Or.inl ⟨by omega, c2, h.1.symm, h.2.symm⟩
    · simp only [if_neg c2] at h
      right
      by_cases c3 : 192 ≤ ms.getD a 0
      · left
        simp only [if_pos c3] at h
        by_cases c4 : ms.length ≤ a + 1
        · simp only [if_pos c4] at h; simp at h
        · simp only [if_neg c4] at h
          by_cases c5 : low ≤ place ms a
          · simp only [if_pos c5] at h; simp at h
          · simp only [if_neg c5] at h
            obtain ⟨h1, h2⟩ := ends_ok h
            exact ⟨by omega, c2, c3, by omega, h2, _, h1⟩
      · right
        simp only [if_neg c3] at h
        by_cases c4 : 63 < ms.getD a 0
        · simp only [if_pos c4] at h; simp at h
        · simp only [if_neg c4] at h
          by_cases c5 : ms.length ≤ a + long ms a
          · simp only [if_pos c5] at h; simp at h
          · simp only [if_neg c5] at h
            by_cases c6 : 255 < size + (long ms a + 1)
            · simp only [if_pos c6] at h; simp at h
            · simp only [if_neg c6] at h
              obtain ⟨M, h1, h2⟩ := ahead_ok h
              exact ⟨by omega, c2, c3, c4, by omega, M, h2, h1⟩

/-- .. and so it is read. -/
theorem rd_end {ms : List Int} {f a low size : Nat} (h1 : a < ms.length) (h2 : ms.getD a 0 = 0) : rd ms (f + 1) a low size = (0, [], a + 1) := by
  unfold rd
  rw [if_neg (by omega), if_pos h2]

theorem rd_ptr {ms : List Int} {f a low size : Nat} {L : List (List Int)} {e : Nat} (h1 : a + 1 < ms.length) (h2 : ¬ ms.getD a 0 = 0) (h3 : 192 ≤ ms.getD a 0) (h4 : place ms a < low) (h : rd ms f (place ms a) (place ms a) size = (0, L, e)) : rd ms (f + 1) a low size = (0, L, a + 2) := by
  unfold rd
  rw [if_neg (by omega), if_neg h2, if_pos h3, if_neg (by omega), if_neg (by omega), h]
  rfl

theorem rd_label {ms : List Int} {f a low size : Nat} {M : List (List Int)} {e : Nat} (h1 : a + long ms a < ms.length) (h2 : ¬ ms.getD a 0 = 0) (h3 : ¬ 192 ≤ ms.getD a 0) (h4 : ¬ 63 < ms.getD a 0) (h5 : size + (long ms a + 1) ≤ 255) (h : rd ms f (a + 1 + long ms a) low (size + (long ms a + 1)) = (0, M, e)) : rd ms (f + 1) a low size = (0, cut ms (a + 1) (long ms a) :: M, e) := by
  unfold rd
  rw [if_neg (by omega), if_neg h2, if_neg h3, if_neg h4, if_neg (by omega), if_neg (by omega), h]
  rfl

theorem rd_zero {ms : List Int} {a low size : Nat} {L : List (List Int)} {e : Nat} (h : rd ms 0 a low size = (0, L, e)) : False := by
  unfold rd at h; simp at h

theorem rd_may {ms : List Int} (hb : ∀ x ∈ ms, 0 ≤ x ∧ x ≤ 255) : ∀ (f a low size : Nat) (L : List (List Int)) (e : Nat), rd ms f a low size = (0, L, e) → size ≤ 255 →
    L.all okL = true ∧ size + total L ≤ 255 ∧ a < e ∧ e ≤ ms.length ∧ ∀ l ∈ L, ∀ x ∈ l, 0 ≤ x ∧ x ≤ 255 := by
  intro f
  induction f with
  | zero => intro a low size L e h; exact absurd h rd_zero
  | succ f ih =>
    intro a low size L e h hs
    rcases rd_cases h with ⟨h1, _, rfl, rfl⟩ | ⟨h1, h2, h3, h4, rfl, e', h5⟩ | ⟨h1, h2, h3, h4, h5, M, rfl, h6⟩
    · exact ⟨rfl, by simp [total]; exact hs, by omega, by omega, by simp⟩
    · obtain ⟨a1, a2, a3, a4, a5⟩ := ih _ _ _ _ _ h5 hs
      exact ⟨a1, a2, by omega, by omega, a5⟩
    · obtain ⟨a1, a2, a3, a4, a5⟩ := ih _ _ _ _ _ h6 (by omega)
      have hx := hb (ms.getD a 0) (by
        rw [List.getD_eq_getElem?_getD, List.getElem?_eq_getElem (show a < ms.length by omega)]
        exact List.getElem_mem _)
      have hl : (cut ms (a + 1) (long ms a)).length = long ms a := cut_length (by omega)
      have hp : 1 ≤ long ms a ∧ long ms a ≤ 63 := by unfold long; omega
      refine ⟨?_, by rw [total_cons, hl]; omega, by omega, a4, ?_⟩
      · rw [List.all_cons, a1, Bool.and_true]
        unfold okL
        rw [hl]
        exact decide_eq_true hp
      · intro l hl x hx
        rcases List.mem_cons.1 hl with q | q
        · subst q
          exact hb x (List.mem_of_mem_drop (List.mem_of_mem_take hx))
        · exact a5 l q x hx

/-! ### What stands behind does not matter -/

theorem getD_more (ms more : List Int) (a : Nat) (h : a < ms.length) : (ms ++ more).getD a 0 = ms.getD a 0 := by
  rw [List.getD_eq_getElem?_getD, List.getD_eq_getElem?_getD, List.getElem?_append_left h]

theorem cut_more (ms more : List Int) (a k : Nat) (h : a + k ≤ ms.length) : cut (ms ++ more) a k = cut ms a k := by
  unfold cut
  rw [List.drop_append_of_le_length (by omega), List.take_append_of_le_length (by rw [List.length_drop]; omega)]

theorem rd_behind (ms more : List Int) : ∀ (f a low size : Nat) (L : List (List Int)) (e : Nat), rd ms f a low size = (0, L, e) → rd (ms ++ more) f a low size = (0, L, e) := by
  intro f
  induction f with
  | zero => intro a low size L e h; exact absurd h rd_zero
  | succ f ih =>
    intro a low size L e h
    rcases rd_cases h with ⟨h1, h2, rfl, rfl⟩ | ⟨h1, h2, h3, h4, rfl, e', h5⟩ | ⟨h1, h2, h3, h4, h5, M, rfl, h6⟩
    · exact rd_end (by rw [List.length_append]; omega) (by rw [getD_more _ _ _ h1]; exact h2)
    · have e1 := getD_more ms more a (by omega)
      have e2 : place (ms ++ more) a = place ms a := by unfold place; rw [e1, getD_more _ _ _ h1]
      exact rd_ptr (by rw [List.length_append]; omega) (by rw [e1]; exact h2) (by rw [e1]; exact h3) (by rw [e2]; exact h4) (by rw [e2]; exact ih _ _ _ _ _ h5)
    · have e1 := getD_more ms more a (by omega)
      have e2 : long (ms ++ more) a = long ms a := by unfold long; rw [e1]
      have e3 := cut_more ms more (a + 1) (long ms a) (by omega)
      have := @rd_label (ms ++ more) f a low size M e (by rw [List.length_append, e2]; omega) (by rw [e1]; exact h2) (by rw [e1]; exact h3) (by rw [e1]; exact h4) (by rw [e2]; exact h5) (by rw [e2]; exact ih _ _ _ _ _ h6)
      rw [this, e2, e3]

theorem fu_behind (ms more : List Int) (a low : Nat) : fu ms a low ≤ fu (ms ++ more) a low := by
  unfold fu
  have : low * (ms.length + 1) ≤ low * ((ms ++ more).length + 1) := Nat.mul_le_mul_left _ (by rw [List.length_append]; omega)
  rw [List.length_append] at *
  omega

theorem rdA_behind {ms : List Int} (more : List Int) {a low size : Nat} {L : List (List Int)} {e : Nat} (h : rdA ms a low size = (0, L, e)) : rdA (ms ++ more) a low size = (0, L, e) := by
  unfold rdA at *
  refine rd_behind ms more _ a low size L e ?_
  rw [rd_enough ms a low size _ (fu_behind ms more a low)]
  exact h

/-! ### How many bytes there were so far does not matter, as long as it is not too long -/

theorem rd_size (ms : List Int) : ∀ (f a low size size' : Nat) (L : List (List Int)) (e : Nat), rd ms f a low size = (0, L, e) → size' + total L ≤ 255 → a < ms.length + 1 → rd ms f a low size' = (0, L, e) := by
  intro f
  induction f with
  | zero => intro a low size size' L e h; exact absurd h rd_zero
  | succ f ih =>
    intro a low size size' L e h hs ha
    rcases rd_cases h with ⟨h1, h2, rfl, rfl⟩ | ⟨h1, h2, h3, h4, rfl, e', h5⟩ | ⟨h1, h2, h3, h4, h5, M, rfl, h6⟩
    · exact rd_end h1 h2
    · refine rd_ptr h1 h2 h3 h4 (e := e') ?_
      by_cases q : place ms a < ms.length + 1
      · exact ih _ _ _ _ _ _ h5 hs q
      · exfalso
        cases f with
        | zero => exact rd_zero h5
        | succ f =>
          rcases rd_cases h5 with ⟨h1, _⟩ | ⟨h1, _⟩ | ⟨h1, _⟩ <;> omega
    · rw [total_cons, cut_length (by omega)] at hs
      exact rd_label h1 h2 h3 h4 (by omega) (ih _ _ _ _ _ _ h6 (by omega) (by omega))

theorem rdA_size {ms : List Int} {a low size size' : Nat} {L : List (List Int)} {e : Nat} (h : rdA ms a low size = (0, L, e)) (hs : size' + total L ≤ 255) : rdA ms a low size' = (0, L, e) := by
  unfold rdA at *
  by_cases q : a < ms.length + 1
  · exact rd_size ms _ a low size size' L e h hs q
  · exfalso
    obtain ⟨k, hk⟩ : ∃ k, fu ms a low = k + 1 := ⟨fu ms a low - 1, by unfold fu; omega⟩
    rw [hk] at h
    rcases rd_cases h with ⟨h1, _⟩ | ⟨h1, _⟩ | ⟨h1, _⟩ <;> omega

theorem rdA_may {ms : List Int} (hb : ∀ x ∈ ms, 0 ≤ x ∧ x ≤ 255) {a low size : Nat} {L : List (List Int)} {e : Nat} (h : rdA ms a low size = (0, L, e)) (hs : size ≤ 255) :
    L.all okL = true ∧ size + total L ≤ 255 ∧ a < e ∧ e ≤ ms.length ∧ ∀ l ∈ L, ∀ x ∈ l, 0 ≤ x ∧ x ≤ 255 := rd_may hb _ a low size L e h hs

/-! ### What is sent is read -/

/-- Labels as they are sent. -/
def sentL (n : List (List Int)) : List Int := n.flatMap fun l => (l.length : Int) :: l

theorem sentL_nil : sentL [] = [] := rfl
theorem sentL_cons (l : List Int) (n : List (List Int)) : sentL (l :: n) = (l.length : Int) :: (l ++ sentL n) := by
  unfold sentL; rw [List.flatMap_cons]; rfl
theorem sentL_append (n k : List (List Int)) : sentL (n ++ k) = sentL n ++ sentL k := by
  unfold sentL; rw [List.flatMap_append]
theorem sentL_length (n : List (List Int)) : (sentL n).length = total n := by
  induction n with
  | nil => rfl
  | cons l n ih => rw [sentL_cons, total_cons, List.length_cons, List.length_append, ih]; omega
theorem total_append (n k : List (List Int)) : total (n ++ k) = total n + total k := by
  rw [← sentL_length, sentL_append, List.length_append, sentL_length, sentL_length]

/-- Labels ahead. -/
def aheadAll (n : List (List Int)) (r : Int × List (List Int) × Nat) : Int × List (List Int) × Nat := if r.1 = 0 then (0, n ++ r.2.1, r.2.2) else (r.1, [], 0)

theorem getD_at (pre rest : List Int) (x : Int) : (pre ++ x :: rest).getD pre.length 0 = x := by
  rw [List.getD_eq_getElem?_getD, List.getElem?_append_right (Nat.le_refl _), Nat.sub_self]; rfl

theorem rd_sent : ∀ (n : List (List Int)) (pre rest : List Int) (low size : Nat) (M : List (List Int)) (e : Nat), n.all okL = true → size + total n ≤ 255 →
    rdA (pre ++ sentL n ++ rest) (pre.length + total n) low (size + total n) = (0, M, e) → rdA (pre ++ sentL n ++ rest) pre.length low size = (0, n ++ M, e) := by
  intro n
  induction n with
  | nil =>
    intro pre rest low size M e _ _ h
    simpa [total, sentL_nil] using h
  | cons l n ih =>
    intro pre rest low size M e ho hs h
    rw [List.all_cons, Bool.and_eq_true] at ho
    obtain ⟨ho1, ho2⟩ := ho
    have hl := of_decide_eq_true ho1
    rw [total_cons] at hs h
    have e0 : pre ++ sentL (l :: n) ++ rest = (pre ++ (l.length : Int) :: l) ++ sentL n ++ rest := by
      rw [sentL_cons]; simp
    have e1 : (pre ++ (l.length : Int) :: l).length = pre.length + 1 + l.length := by simp; omega
    rw [e0] at h ⊢
    have k := ih (pre ++ (l.length : Int) :: l) rest low (size + (l.length + 1)) M e ho2 (by omega) (by
      rw [e1, show pre.length + 1 + l.length + total n = pre.length + (l.length + 1 + total n) by omega, show size + (l.length + 1) + total n = size + (l.length + 1 + total n) by omega]
      exact h)
    rw [e1] at k
    have e2 : (pre ++ (l.length : Int) :: l) ++ sentL n ++ rest = pre ++ (l.length : Int) :: (l ++ (sentL n ++ rest)) := by simp
    rw [e2] at k ⊢
    have g := getD_at pre (l ++ (sentL n ++ rest)) (l.length : Int)
    have gl : long (pre ++ (l.length : Int) :: (l ++ (sentL n ++ rest))) pre.length = l.length := by unfold long; rw [g]; simp
    have gc : cut (pre ++ (l.length : Int) :: (l ++ (sentL n ++ rest))) (pre.length + 1) l.length = l := by
      unfold cut
      rw [show pre ++ (l.length : Int) :: (l ++ (sentL n ++ rest)) = (pre ++ [(l.length : Int)]) ++ (l ++ (sentL n ++ rest)) by simp, show pre.length + 1 = (pre ++ [(l.length : Int)]).length by simp, List.drop_left, List.take_left]
    rw [rdA_eq, if_neg (by simp), if_neg (by rw [g]; omega), if_neg (by rw [g]; omega), if_neg (by rw [g]; omega), if_neg (by rw [gl]; simp; omega), if_neg (by rw [gl]; omega), gl, gc, k]
    rfl

end Go.Proofs.Ytnbabdfcamdapaa.Nm
