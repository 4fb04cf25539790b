/-
  Plain facts, with no program in sight: a text is a row of tokens (a byte's, or a dot), and no token begins another one; so a text is cut in one way alone.
-/
import Derived.Test.YtbngafofmgcngaaDoorText
namespace Go.Proofs.YtbngafofmgcngaaDoor.Nm

/-- A token: a byte's, or the dot's. -/
def tok : Option Int → List Int
  | some b => esc b
  | none => [46]

/-- The tokens of a label, and of a name. -/
def toksL (l : List Int) : List (Option Int) := l.map some ++ [none]
def toksN (n : List (List Int)) : List (Option Int) := n.flatMap toksL

/-- A token may be. -/
def okT : Option Int → Prop
  | some b => 0 ≤ b ∧ b ≤ 255
  | none => True

theorem esc_inj (b c : Int) (hb : 0 ≤ b ∧ b ≤ 255) (hc : 0 ≤ c ∧ c ≤ 255) (A B : List Int) (h : esc b ++ A = esc c ++ B) : b = c ∧ A = B := by
  unfold esc at h
  by_cases b1 : b = 46 ∨ b = 92
  · rw [if_pos b1] at h
    by_cases c1 : c = 46 ∨ c = 92
    · rw [if_pos c1] at h
      simp only [List.cons_append, List.nil_append, List.cons.injEq, true_and] at h
      exact h
    · rw [if_neg c1] at h
      by_cases c2 : c < 33 ∨ 126 < c
      · rw [if_pos c2] at h
        simp only [List.cons_append, List.nil_append, List.cons.injEq, true_and] at h
        omega
      · rw [if_neg c2] at h
        simp only [List.cons_append, List.nil_append, List.cons.injEq] at h
        omega
  · rw [if_neg b1] at h
    by_cases b2 : b < 33 ∨ 126 < b
    · rw [if_pos b2] at h
      by_cases c1 : c = 46 ∨ c = 92
      · rw [if_pos c1] at h
        simp only [List.cons_append, List.nil_append, List.cons.injEq, true_and] at h
        omega
      · rw [if_neg c1] at h
        by_cases c2 : c < 33 ∨ 126 < c
        · rw [if_pos c2] at h
          simp only [List.cons_append, List.nil_append, List.cons.injEq, true_and] at h
          obtain ⟨e1, e2, e3, e4⟩ := h
          have k1 : b / 10 / 10 = b / 100 := by omega
          have k2 : c / 10 / 10 = c / 100 := by omega
          exact ⟨by omega, e4⟩
        · rw [if_neg c2] at h
          simp only [List.cons_append, List.nil_append, List.cons.injEq] at h
          omega
    · rw [if_neg b2] at h
      by_cases c1 : c = 46 ∨ c = 92
      · rw [if_pos c1] at h
        simp only [List.cons_append, List.nil_append, List.cons.injEq] at h
        omega
      · rw [if_neg c1] at h
        by_cases c2 : c < 33 ∨ 126 < c
        · rw [if_pos c2] at h
          simp only [List.cons_append, List.nil_append, List.cons.injEq] at h
          omega
        · rw [if_neg c2] at h
          simp only [List.cons_append, List.nil_append, List.cons.injEq] at h
          exact h

theorem esc_dot (b : Int) (A B : List Int) (h : esc b ++ A = 46 :: B) : False := by
  obtain ⟨x, t, e, hn⟩ := esc_head b
  rw [e] at h
  simp only [List.cons_append, List.cons.injEq] at h
  exact hn h.1

theorem tok_inj (x y : Option Int) (hx : okT x) (hy : okT y) (A B : List Int) (h : tok x ++ A = tok y ++ B) : x = y ∧ A = B := by
  cases x with
  | none =>
    cases y with
    | none => simpa [tok] using h
    | some c => exact (esc_dot c B A h.symm).elim
  | some b =>
    cases y with
    | none => exact (esc_dot b A B h).elim
    | some c =>
      have := esc_inj b c hx hy A B h
      exact ⟨by rw [this.1], this.2⟩

theorem tok_ne (x : Option Int) : tok x ≠ [] := by
  cases x with
  | none => simp [tok]
  | some b =>
    obtain ⟨h, t, e, _⟩ := esc_head b
    show esc b ≠ []; rw [e]; simp

theorem toks_cut (ys : List (Option Int)) (hy : ∀ y ∈ ys, okT y) : ∀ (xs : List (Option Int)) (rest : List Int), (∀ x ∈ xs, okT x) → xs.flatMap tok = ys.flatMap tok ++ rest → ∃ zs, xs = ys ++ zs ∧ rest = zs.flatMap tok := by
  induction ys with
  | nil => intro xs rest _ h; exact ⟨xs, rfl, by simpa using h.symm⟩
  | cons y ys ih =>
    intro xs rest hx h
    cases xs with
    | nil =>
      rw [List.flatMap_nil, List.flatMap_cons, List.append_assoc] at h
      have := tok_ne y
      cases e : tok y with
      | nil => exact absurd e this
      | cons a l => rw [e] at h; simp at h
    | cons x xs =>
      rw [List.flatMap_cons, List.flatMap_cons, List.append_assoc] at h
      obtain ⟨rfl, h2⟩ := tok_inj x y (hx x (by simp)) (hy y (by simp)) _ _ h
      obtain ⟨zs, rfl, h3⟩ := ih (fun z hz => hy z (by simp [hz])) xs rest (fun z hz => hx z (by simp [hz])) h2
      exact ⟨zs, rfl, h3⟩

theorem toks_esc (l : List Int) : (l.map some).flatMap tok = l.flatMap esc := by
  rw [List.flatMap_map]; rfl

theorem toks_label (l : List Int) : (toksL l).flatMap tok = textL l := by
  unfold toksL textL
  rw [List.flatMap_append, toks_esc]; rfl

theorem toks_name (n : List (List Int)) : (toksN n).flatMap tok = n.flatMap textL := by
  unfold toksN
  rw [List.flatMap_assoc]
  congr 1
  funext l
  exact toks_label l

theorem toks_ok (n : List (List Int)) (h : ∀ l ∈ n, ∀ x ∈ l, 0 ≤ x ∧ x ≤ 255) : ∀ t ∈ toksN n, okT t := by
  intro t ht
  obtain ⟨l, hl, ht⟩ := List.mem_flatMap.1 ht
  unfold toksL at ht
  rcases List.mem_append.1 ht with q | q
  · obtain ⟨b, hb, rfl⟩ := List.mem_map.1 q
    exact h l hl b hb
  · rw [List.mem_singleton.1 q]; trivial

/-- What has been read of a text, and what is left. -/
structure Met (s : List Int) (labels : List (List Int)) (label rest : List Int) : Prop where
  cut : s = labels.flatMap textL ++ (label.flatMap esc ++ rest)
  bytes : ∀ l ∈ labels, ∀ x ∈ l, 0 ≤ x ∧ x ≤ 255
  last : ∀ x ∈ label, 0 ≤ x ∧ x ≤ 255

theorem met_start (s : List Int) : Met s [] [] s := ⟨by simp, by simp, by simp⟩

theorem met_dot {s : List Int} {labels : List (List Int)} {label rest : List Int} (h : Met s labels label (46 :: rest)) : Met s (labels ++ [label]) [] rest := by
  refine ⟨?_, ?_, by simp⟩
  · rw [h.cut, List.flatMap_append]
    simp [textL]
  · intro l hl
    rcases List.mem_append.1 hl with q | q
    · exact h.bytes l q
    · rw [List.mem_singleton.1 q]; exact h.last

theorem met_byte {s : List Int} {labels : List (List Int)} {label rest : List Int} {b : Int} (h : Met s labels label (esc b ++ rest)) (hb : 0 ≤ b ∧ b ≤ 255) : Met s labels (label ++ [b]) rest := by
  refine ⟨?_, h.bytes, ?_⟩
  · rw [h.cut, List.flatMap_append]
    simp
  · intro x hx
    rcases List.mem_append.1 hx with q | q
    · exact h.last x q
    · rw [List.mem_singleton.1 q]; exact hb

theorem met_toks {s : List Int} {labels : List (List Int)} {label rest : List Int} (h : Met s labels label rest) : s = (toksN labels ++ label.map some).flatMap tok ++ rest := by
  rw [h.cut, List.flatMap_append, toks_name, toks_esc, List.append_assoc]

theorem met_ok {s : List Int} {labels : List (List Int)} {label rest : List Int} (h : Met s labels label rest) : ∀ t ∈ toksN labels ++ label.map some, okT t := by
  intro t ht
  rcases List.mem_append.1 ht with q | q
  · exact toks_ok labels h.bytes t q
  · obtain ⟨b, hb, rfl⟩ := List.mem_map.1 q
    exact h.last b hb

/-- A text that has a name, other than the dot alone. -/
theorem read_shape {s : List Int} {n : List (List Int)} (h : readN s = some n) (hs : s ≠ [46]) : n ≠ [] ∧ s = n.flatMap textL ∧ checkN n = 0 := by
  obtain ⟨c, t⟩ := text_read h
  have ne : n ≠ [] := by
    intro q
    subst q
    exact hs t.symm
  refine ⟨ne, ?_, c⟩
  rw [← t]; unfold textN; rw [if_neg ne]

/-- Where neither a dot nor a byte stands next, there is no name. -/
theorem met_none {s : List Int} {labels : List (List Int)} {label rest : List Int} (h : Met s labels label rest) (hs : s ≠ [46]) (hr : rest ≠ []) (hd : ∀ r, rest ≠ 46 :: r) (he : ∀ b, 0 ≤ b ∧ b ≤ 255 → ∀ r, rest ≠ esc b ++ r)
    (hb : ∀ n, readN s = some n → ∀ l ∈ n, ∀ x ∈ l, 0 ≤ x ∧ x ≤ 255) : readN s = none := by
  cases q : readN s with
  | none => rfl
  | some n =>
    obtain ⟨_, e, _⟩ := read_shape q hs
    have k := met_toks h
    rw [e, ← toks_name] at k
    obtain ⟨zs, hz, hrest⟩ := toks_cut _ (met_ok h) (toksN n) rest (toks_ok n (hb n q)) k
    cases zs with
    | nil => exact absurd hrest hr
    | cons z zs =>
      rw [List.flatMap_cons] at hrest
      cases z with
      | none => exact absurd hrest (hd _)
      | some b =>
        have : okT (some b) := toks_ok n (hb n q) _ (by rw [hz]; simp)
        exact absurd hrest (he b this _)

/-- A text that ends within a label has no name. -/
theorem met_open {s : List Int} {labels : List (List Int)} {label : List Int} (h : Met s labels label []) (hs : s ≠ [46]) (hl : label ≠ [])
    (hb : ∀ n, readN s = some n → ∀ l ∈ n, ∀ x ∈ l, 0 ≤ x ∧ x ≤ 255) : readN s = none := by
  cases q : readN s with
  | none => rfl
  | some n =>
    obtain ⟨ne, e, _⟩ := read_shape q hs
    have k := met_toks h
    rw [e, ← toks_name] at k
    obtain ⟨zs, hz, hrest⟩ := toks_cut _ (met_ok h) (toksN n) [] (toks_ok n (hb n q)) k
    have hzs : zs = [] := by
      cases zs with
      | nil => rfl
      | cons z zs =>
        rw [List.flatMap_cons] at hrest
        have := tok_ne z
        cases c : tok z with
        | nil => exact absurd c this
        | cons a t => rw [c] at hrest; simp at hrest
    rw [hzs, List.append_nil] at hz
    have l1 : (toksN n).getLast? = some none := by
      unfold toksN
      obtain ⟨m, x, rfl⟩ : ∃ m x, n = m ++ [x] := ⟨n.dropLast, n.getLast ne, (List.dropLast_concat_getLast ne).symm⟩
      rw [List.flatMap_append]
      simp [toksL]
    have l2 : (toksN labels ++ label.map some).getLast? = some (some (label.getLast hl)) := by
      obtain ⟨m, x, rfl⟩ : ∃ m x, label = m ++ [x] := ⟨label.dropLast, label.getLast hl, (List.dropLast_concat_getLast hl).symm⟩
      rw [List.map_append, ← List.append_assoc]
      simp
    rw [hz, l2] at l1
    simp at l1

/-- A text that ends behind a label's dot: its labels are its name, if that may be. -/
theorem met_whole {s : List Int} {labels : List (List Int)} (h : Met s labels [] []) (hs : s ≠ [46]) (hl : labels ≠ []) : readN s = if checkN labels = 0 then some labels else none := by
  have e : s = labels.flatMap textL := by rw [h.cut]; simp
  have t : textN labels = s := by unfold textN; rw [if_neg hl, e]
  by_cases c : checkN labels = 0
  · rw [if_pos c, ← t]; exact read_text h.bytes c
  · rw [if_neg c]
    cases q : readN s with
    | none => rfl
    | some n =>
      obtain ⟨_, e2, c2⟩ := read_shape q hs
      have : n = labels := by
        have s1 : splitN s = labels := by rw [e]; exact splitN_text labels h.bytes
        unfold readN at q
        rw [if_neg hs] at q
        split at q
        · simp at q
        · split at q
          · rw [s1] at q; exact (Option.some.inj q).symm
          · simp at q
      rw [this] at c2
      exact absurd c2 c

theorem read_nil : readN [] = none := by decide

end Go.Proofs.YtbngafofmgcngaaDoor.Nm
