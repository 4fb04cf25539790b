/-
  Plain facts on names and their texts, with no program in sight: bytes are numbers from 0 to 255; what a label's bytes are in a text, what stands at a text's head, how a text is cut; a name that may be is its text, cut.
-/
namespace Go.Proofs.Ytnbabdfcamdapaa.Nm

/-- A byte of a label, in a text. -/
def esc (c : Int) : List Int :=
  if c = 46 ∨ c = 92 then [92, c] else if c < 33 ∨ 126 < c then [92, 48 + c / 100, 48 + c / 10 % 10, 48 + c % 10] else [c]

/-- A label's text, with its dot. -/
def textL (l : List Int) : List Int := l.flatMap esc ++ [46]

/-- A name's text. -/
def textN (n : List (List Int)) : List Int := if n = [] then [46] else n.flatMap textL

/-- A label may be. -/
def okL (l : List Int) : Bool := decide (1 ≤ l.length ∧ l.length ≤ 63)

/-- The bytes of all labels, and one more for each. -/
def total (n : List (List Int)) : Nat := (n.map fun l => l.length + 1).sum

/-- What is wrong with a name: 0, 3 or 5. -/
def checkN (n : List (List Int)) : Int := if n.all okL then (if 254 < total n then 5 else 0) else 3

/-- What stands at a text's head, and how many bytes of it stand for it. -/
def first : List Int → Int × Nat
  | [] => (0, 1)
  | [c] => (c, 1)
  | c :: d :: r =>
    if c = 92 then
      match r with
      | e :: f :: _ => if 48 ≤ d ∧ d ≤ 57 then (((d - 48) * 100 + (e - 48) * 10 + (f - 48)) % 256, 4) else (d, 2)
      | _ => (d, 2)
    else (c, 1)

def splitGo : Nat → List Int → List Int → List (List Int) → List (List Int)
  | 0, _, _, labels => labels
  | _ + 1, [], _, labels => labels
  | f + 1, c :: r, label, labels =>
    if c = 46 then splitGo f ((c :: r).drop (first (c :: r)).2) [] (labels ++ [label])
    else splitGo f ((c :: r).drop (first (c :: r)).2) (label ++ [(first (c :: r)).1]) labels

def splitN (s : List Int) : List (List Int) := splitGo s.length s [] []

/-- The name of a text. -/
def readN (s : List Int) : Option (List (List Int)) :=
  if s = [46] then some [] else if 1020 < s.length then none else if checkN (splitN s) = 0 ∧ textN (splitN s) = s then some (splitN s) else none

/-! ### Facts -/

theorem first_pos (s : List Int) : 1 ≤ (first s).2 := by
  unfold first
  split
  · omega
  · omega
  · split
    · split
      · split <;> simp
      · simp
    · simp

theorem esc_head (c : Int) : ∃ h t, esc c = h :: t ∧ h ≠ 46 := by
  unfold esc
  split
  · exact ⟨92, [c], rfl, by omega⟩
  · split
    · exact ⟨92, _, rfl, by omega⟩
    · exact ⟨c, [], rfl, by omega⟩

theorem esc_len (c : Int) : 1 ≤ (esc c).length ∧ (esc c).length ≤ 4 := by
  unfold esc
  split
  · simp
  · split <;> simp

theorem first_esc (c : Int) (h0 : 0 ≤ c) (h1 : c ≤ 255) (d : Int) (rest : List Int) : first (esc c ++ d :: rest) = (c, (esc c).length) := by
  unfold esc
  by_cases a : c = 46 ∨ c = 92
  · rw [if_pos a]
    simp only [List.cons_append, List.nil_append, first]
    rw [if_pos trivial]
    cases rest with
    | nil => rfl
    | cons e r => simp only; rw [if_neg (by omega)]; rfl
  · rw [if_neg a]
    by_cases b : c < 33 ∨ 126 < c
    · rw [if_pos b]
      simp only [List.cons_append, List.nil_append, first]
      rw [if_pos trivial, if_pos (by omega)]
      have k : c / 10 / 10 = c / 100 := by omega
      have k2 : (48 + c / 100 - 48) * 100 + (48 + c / 10 % 10 - 48) * 10 + (48 + c % 10 - 48) = c := by omega
      rw [k2]
      refine Prod.ext ?_ rfl
      show c % 256 = c
      omega
    · rw [if_neg b]
      simp only [List.cons_append, List.nil_append, first]
      rw [if_neg (by omega)]; rfl

theorem split_esc (c : Int) (h0 : 0 ≤ c) (h1 : c ≤ 255) (d : Int) (rest label : List Int) (labels : List (List Int)) (f : Nat) :
    splitGo (f + 1) (esc c ++ d :: rest) label labels = splitGo f (d :: rest) (label ++ [c]) labels := by
  have e := first_esc c h0 h1 d rest
  have k : (esc c ++ d :: rest).drop (esc c).length = d :: rest := by simp
  obtain ⟨h, t, he, hn⟩ := esc_head c
  rw [he] at e k ⊢
  simp only [List.cons_append] at e k ⊢
  simp only [splitGo]
  rw [if_neg hn, e, k]

theorem split_label (l : List Int) (hl : ∀ c ∈ l, 0 ≤ c ∧ c ≤ 255) : ∀ (rest label : List Int) (labels : List (List Int)) (f : Nat),
    splitGo (f + 1 + l.length) (l.flatMap esc ++ 46 :: rest) label labels = splitGo f rest [] (labels ++ [label ++ l]) := by
  induction l with
  | nil =>
    intro rest label labels f
    simp only [List.length_nil, Nat.add_zero, List.flatMap_nil, List.nil_append, List.append_nil, splitGo]
    rw [if_pos trivial]
    have : first (46 :: rest) = (46, 1) := by
      cases rest with
      | nil => rfl
      | cons d r => simp only [first]; rw [if_neg (by omega)]
    rw [this]; rfl
  | cons c l ih =>
    intro rest label labels f
    have hc := hl c (by simp)
    rw [List.flatMap_cons, List.append_assoc, List.length_cons, show f + 1 + (l.length + 1) = (f + 1 + l.length) + 1 from by omega]
    obtain ⟨d, r, hd⟩ : ∃ d r, l.flatMap esc ++ 46 :: rest = d :: r := by
      cases e : l.flatMap esc ++ 46 :: rest with
      | nil => simp at e
      | cons d r => exact ⟨d, r, rfl⟩
    rw [hd, split_esc c hc.1 hc.2, ← hd, ih (fun x hx => hl x (by simp [hx])), List.append_assoc]
    rfl

theorem split_none (f : Nat) (label : List Int) (labels : List (List Int)) : splitGo f [] label labels = labels := by
  cases f <;> rfl

/-- More steps than bytes change nothing. -/
theorem split_more : ∀ (f g : Nat) (s label : List Int) (labels : List (List Int)), s.length ≤ f → s.length ≤ g → splitGo f s label labels = splitGo g s label labels := by
  intro f
  induction f with
  | zero =>
    intro g s label labels h _
    have : s = [] := List.length_eq_zero_iff.1 (by omega)
    subst this; rw [split_none, split_none]
  | succ f ih =>
    intro g s label labels h k
    cases s with
    | nil => rw [split_none, split_none]
    | cons c r =>
      cases g with
      | zero => simp at k
      | succ g =>
        have hp := first_pos (c :: r)
        have hd : ((c :: r).drop (first (c :: r)).2).length ≤ r.length := by rw [List.length_drop, List.length_cons]; omega
        simp only [List.length_cons] at h k
        simp only [splitGo]
        rw [ih g _ [] _ (by omega) (by omega), ih g _ (label ++ _) _ (by omega) (by omega)]

theorem flat_len (l : List Int) : l.length ≤ (l.flatMap esc).length ∧ (l.flatMap esc).length ≤ 4 * l.length := by
  induction l with
  | nil => simp
  | cons c l ih =>
    have := esc_len c
    rw [List.flatMap_cons, List.length_append, List.length_cons]; omega

theorem textL_len (l : List Int) : l.length + 1 ≤ (textL l).length ∧ (textL l).length ≤ 4 * (l.length + 1) := by
  have := flat_len l
  unfold textL
  rw [List.length_append, List.length_singleton]; omega

theorem flatN_len (n : List (List Int)) : total n ≤ (n.flatMap textL).length ∧ (n.flatMap textL).length ≤ 4 * total n := by
  unfold total
  induction n with
  | nil => simp
  | cons l n ih =>
    have := textL_len l
    rw [List.flatMap_cons, List.length_append, List.map_cons, List.sum_cons]; omega

theorem split_name (n : List (List Int)) (hn : ∀ l ∈ n, ∀ c ∈ l, 0 ≤ c ∧ c ≤ 255) : ∀ (labels : List (List Int)) (f : Nat), total n ≤ f → splitGo f (n.flatMap textL) [] labels = labels ++ n := by
  induction n with
  | nil => intro labels f _; rw [List.flatMap_nil, split_none, List.append_nil]
  | cons l n ih =>
    intro labels f hf
    unfold total at hf
    rw [List.map_cons, List.sum_cons] at hf
    obtain ⟨g, rfl⟩ : ∃ g, f = g + 1 + l.length := ⟨f - (l.length + 1), by omega⟩
    have e : (l :: n).flatMap textL = l.flatMap esc ++ 46 :: n.flatMap textL := by rw [List.flatMap_cons]; unfold textL; simp
    rw [e, split_label l (hn l (by simp)), List.nil_append, ih (fun x hx => hn x (by simp [hx])) _ _ (by unfold total; omega), List.append_assoc]
    rfl

theorem splitN_text (n : List (List Int)) (hn : ∀ l ∈ n, ∀ c ∈ l, 0 ≤ c ∧ c ≤ 255) : splitN (n.flatMap textL) = n := by
  unfold splitN
  rw [split_name n hn [] _ (flatN_len n).1, List.nil_append]

theorem check_zero {n : List (List Int)} (h : checkN n = 0) : (∀ l ∈ n, 1 ≤ l.length ∧ l.length ≤ 63) ∧ total n ≤ 254 := by
  unfold checkN at h
  by_cases a : n.all okL = true
  · rw [if_pos a] at h
    have b : ¬ 254 < total n := by intro k; rw [if_pos k] at h; omega
    refine ⟨fun l hl => ?_, by omega⟩
    have := List.all_eq_true.1 a l hl
    unfold okL at this
    exact of_decide_eq_true this
  · rw [if_neg a] at h; omega

theorem text_len {n : List (List Int)} (h : checkN n = 0) : (textN n).length ≤ 1020 := by
  unfold textN
  split
  · simp
  · have := flatN_len n
    have := (check_zero h).2
    omega

/-- A name that may be is the name of its text. -/
theorem read_text {n : List (List Int)} (hn : ∀ l ∈ n, ∀ c ∈ l, 0 ≤ c ∧ c ≤ 255) (h : checkN n = 0) : readN (textN n) = some n := by
  unfold readN
  by_cases e : n = []
  · subst e; rfl
  · have t : textN n = n.flatMap textL := by unfold textN; rw [if_neg e]
    have hlen := text_len h
    have ne : textN n ≠ [46] := by
      intro q
      have l1 : (textN n).length = 1 := by rw [q]; rfl
      rw [t] at l1
      have := (flatN_len n).1
      cases n with
      | nil => exact e rfl
      | cons l n =>
        have := (check_zero h).1 l (by simp)
        unfold total at *
        rw [List.map_cons, List.sum_cons] at *
        omega
    have s : splitN (textN n) = n := by rw [t]; exact splitN_text n hn
    rw [if_neg ne, if_neg (by omega), s, if_pos ⟨h, rfl⟩]

/-- The text of the name of a text is that text. -/
theorem text_read {s : List Int} {n : List (List Int)} (h : readN s = some n) : checkN n = 0 ∧ textN n = s := by
  unfold readN at h
  by_cases a : s = [46]
  · rw [if_pos a] at h
    obtain rfl := Option.some.inj h
    subst a; exact ⟨rfl, rfl⟩
  · rw [if_neg a] at h
    by_cases b : 1020 < s.length
    · rw [if_pos b] at h; simp at h
    · rw [if_neg b] at h
      by_cases c : checkN (splitN s) = 0 ∧ textN (splitN s) = s
      · rw [if_pos c] at h
        obtain rfl := Option.some.inj h
        exact c
      · rw [if_neg c] at h; simp at h

end Go.Proofs.Ytnbabdfcamdapaa.Nm
