/-
  Plain facts of the letters of a name: where they stand, which are great, and a name with its letters made great or small.
-/
import Derived.Test.YtgfplkhcihcagabDoorOrder
namespace Go.Proofs.YtgfplkhcihcagabDoor.Cp
open Go Go.Proofs.YtgfplkhcihcagabDoor

/-- Is it A to Z? -/
def isG (c : Int) : Bool := decide (65 ≤ c ∧ c ≤ 90)
/-- Is it a letter? -/
def isL (c : Int) : Bool := isG c || decide (97 ≤ c ∧ c ≤ 122)
/-- Made great, or small. -/
def sized (c : Int) (b : Bool) : Int := if b then (if 97 ≤ c then c - 32 else c) else (if c ≤ 90 then c + 32 else c)

theorem isL_iff (c : Int) : isL c = true ↔ (65 ≤ c ∧ c ≤ 90) ∨ (97 ≤ c ∧ c ≤ 122) := by unfold isL isG; simp
theorem isG_iff (c : Int) : isG c = true ↔ 65 ≤ c ∧ c ≤ 90 := by unfold isG; simp

theorem isL_sized {c : Int} (b : Bool) (h : isL c = true) : isL (sized c b) = true := by
  rw [isL_iff] at h ⊢; unfold sized; cases b <;> simp <;> split <;> omega
theorem isG_sized {c : Int} (b : Bool) (h : isL c = true) : isG (sized c b) = b := by
  rw [isL_iff] at h
  have : isG (sized c b) = true ↔ b = true := by
    rw [isG_iff]; unfold sized; cases b <;> simp <;> split <;> omega
  cases b <;> cases hg : isG (sized c _) <;> simp_all
theorem sized_own {c : Int} (h : isL c = true) : sized c (isG c) = c := by
  rw [isL_iff] at h
  cases hg : isG c
  · have : ¬ (65 ≤ c ∧ c ≤ 90) := by rw [← isG_iff, hg]; simp
    unfold sized; simp; omega
  · have := (isG_iff c).1 hg
    unfold sized; simp; omega
theorem foI_sized {c : Int} (b : Bool) (h : isL c = true) : Nm.foI (sized c b) = Nm.foI c := by
  rw [isL_iff] at h
  unfold Nm.foI sized
  cases b <;> simp only [Bool.false_eq_true, if_true, if_false] <;> repeat' split <;> omega
theorem sized_byte {c : Int} (b : Bool) (h : isL c = true) : 0 ≤ sized c b ∧ sized c b ≤ 255 := by
  rw [isL_iff] at h
  unfold sized
  cases b <;> simp only [Bool.false_eq_true, if_true, if_false] <;> repeat' split <;> omega

/-! ### where the letters stand -/

def lab (L : List (List Int)) (i : Nat) : List Int := L.getD i []
def at2 (L : List (List Int)) (i j : Nat) : Int := (lab L i).getD j 0
theorem at2_byte {L : List (List Int)} (hL : ∀ l ∈ L, ∀ x ∈ l, 0 ≤ x ∧ x ≤ 255) (i j : Nat) : 0 ≤ at2 L i j ∧ at2 L i j ≤ 255 := by
  unfold at2 lab
  by_cases hi : i < L.length
  · rw [show L.getD i [] = L[i] by simp [List.getD, hi]]
    by_cases hj : j < L[i].length
    · rw [show L[i].getD j 0 = L[i][j] by simp [List.getD, hj]]
      exact hL _ (List.getElem_mem hi) _ (List.getElem_mem hj)
    · rw [show L[i].getD j 0 = 0 by simp [List.getD, Nat.le_of_not_lt hj]]; omega
  · rw [show L.getD i [] = [] by simp [List.getD, Nat.le_of_not_lt hi]]; simp
def ok (L : List (List Int)) (i j : Nat) : Prop := i < L.length ∧ j < (lab L i).length ∧ isL (at2 L i j) = true
instance (L : List (List Int)) (i j : Nat) : Decidable (ok L i j) := by unfold ok; infer_instance

/-- A letter's place. -/
abbrev Pos (L : List (List Int)) := { p : Nat × Nat // ok L p.1 p.2 }
def mk (L : List (List Int)) (i j : Nat) : Option (Pos L) := if h : ok L i j then some ⟨(i, j), h⟩ else none
def rowTo (L : List (List Int)) (i j : Nat) : List (Pos L) := (List.range j).filterMap (mk L i)
def posTo (L : List (List Int)) (i j : Nat) : List (Pos L) := (List.range i).flatMap (fun k => rowTo L k (lab L k).length) ++ rowTo L i j
def posN (L : List (List Int)) : List (Pos L) := posTo L L.length 0

theorem posTo_zero (L : List (List Int)) : posTo L 0 0 = [] := rfl
theorem rowTo_succ (L : List (List Int)) (i j : Nat) : rowTo L i (j + 1) = rowTo L i j ++ (mk L i j).toList := by
  unfold rowTo; rw [List.range_succ, List.filterMap_append]; congr 1
theorem posTo_letter {L : List (List Int)} {i j : Nat} (h : ok L i j) : posTo L i (j + 1) = posTo L i j ++ [⟨(i, j), h⟩] := by
  unfold posTo; rw [rowTo_succ, ← List.append_assoc]; unfold mk; rw [dif_pos h]; rfl
theorem posTo_none {L : List (List Int)} {i j : Nat} (h : ¬ ok L i j) : posTo L i (j + 1) = posTo L i j := by
  unfold posTo; rw [rowTo_succ]; unfold mk; rw [dif_neg h]; simp
theorem posTo_row {L : List (List Int)} {i j : Nat} (h : j = (lab L i).length) : posTo L i j = posTo L (i + 1) 0 := by
  subst h; unfold posTo; rw [List.range_succ, List.flatMap_append]; simp [rowTo]
theorem posTo_end {L : List (List Int)} {i : Nat} (h : i = L.length) : posTo L i 0 = posN L := by subst h; rfl
theorem lab_over {L : List (List Int)} {k : Nat} (h : L.length ≤ k) : lab L k = [] := by simp [lab, h]
theorem posTo_le_row (L : List (List Int)) (i : Nat) {j k : Nat} (h : j ≤ k) : posTo L i j <+: posTo L i k := by
  obtain ⟨d, rfl⟩ := Nat.le.dest h
  induction d with
  | zero => exact List.prefix_refl _
  | succ d ih =>
    refine (ih (by omega)).trans ?_
    show _ <+: posTo L i (j + d + 1)
    by_cases hk : ok L i (j + d)
    · rw [posTo_letter hk]; exact List.prefix_append _ _
    · rw [posTo_none hk]; exact List.prefix_refl _
theorem posTo_le_rows (L : List (List Int)) {i k : Nat} (h : i ≤ k) : posTo L i 0 <+: posTo L k 0 := by
  obtain ⟨d, rfl⟩ := Nat.le.dest h
  induction d with
  | zero => exact List.prefix_refl _
  | succ d ih =>
    refine (ih (by omega)).trans ?_
    show _ <+: posTo L (i + d + 1) 0
    rw [← posTo_row (i := i + d) rfl]
    exact posTo_le_row L _ (Nat.zero_le _)
theorem posTo_prefix (L : List (List Int)) {i j : Nat} (hi : i < L.length) (hj : j ≤ (lab L i).length) : posTo L i j <+: posN L := by
  refine (posTo_le_row L i hj).trans ?_
  rw [posTo_row rfl]
  exact posTo_le_rows L (by omega)
theorem posTo_lt {L : List (List Int)} {i j : Nat} (h : ok L i j) : (posTo L i j).length < (posN L).length := by
  have := (posTo_prefix L h.1 (j := j + 1) h.2.1).length_le
  rw [posTo_letter h] at this; simp at this; omega

/-- What stands there. -/
def here {L : List (List Int)} (p : Pos L) : Int := at2 L p.1.1 p.1.2
/-- The letters of a name. -/
def lettersN (L : List (List Int)) : List Int := L.flatten.filter isL
def greatsN (L : List (List Int)) : List Bool := (lettersN L).map isG

theorem rowTo_here (L : List (List Int)) (i : Nat) (hi : i < L.length) (j : Nat) (hj : j ≤ (lab L i).length) : (rowTo L i j).map here = ((lab L i).take j).filter isL := by
  induction j with
  | zero => rfl
  | succ j ih =>
    rw [rowTo_succ, List.map_append, ih (by omega), List.take_add_one, List.filter_append]
    congr 1
    have hj' : j < (lab L i).length := hj
    have e : (lab L i)[j]? = some (at2 L i j) := by simp [at2, List.getElem?_eq_getElem hj']
    rw [e]
    unfold mk
    by_cases h : ok L i j
    · rw [dif_pos h]; simp [here, h.2.2]
    · rw [dif_neg h]
      have : isL (at2 L i j) = false := by cases hl : isL (at2 L i j) with | false => rfl | true => exact absurd ⟨hi, hj', hl⟩ h
      simp [this]
theorem rows_here (L : List (List Int)) (i : Nat) (hi : i ≤ L.length) : ((List.range i).flatMap (fun k => rowTo L k (lab L k).length)).map here = (L.take i).flatten.filter isL := by
  induction i with
  | zero => rfl
  | succ i ih =>
    rw [List.range_succ, List.flatMap_append, List.map_append, ih (by omega), List.take_add_one]
    have hi' : i < L.length := hi
    have e : L[i]? = some (lab L i) := by simp [lab, List.getElem?_eq_getElem hi']
    rw [e]
    simp [rowTo_here L i hi' _ (Nat.le_refl _), List.take_length]
theorem posN_here (L : List (List Int)) : (posN L).map here = lettersN L := by
  unfold posN posTo
  rw [List.map_append, rows_here L _ (Nat.le_refl _)]
  simp [rowTo, lettersN]
theorem posN_len (L : List (List Int)) : (posN L).length = (lettersN L).length := by rw [← posN_here]; simp
theorem posN_great (L : List (List Int)) : (posN L).map (fun p => isG (here p)) = greatsN L := by
  unfold greatsN; rw [← posN_here, List.map_map]; rfl
theorem greats_len (L : List (List Int)) : (greatsN L).length = (posN L).length := by rw [← posN_great]; simp

/-! ### made great and small -/

/-- How many letters stand ahead. -/
def rank (L : List (List Int)) (i j : Nat) : Nat := (posTo L i j).length
/-- What stands at a place when all letters are turned. -/
def val (L : List (List Int)) (bits : List Bool) (i j : Nat) : Int := if ok L i j then sized (at2 L i j) (bits.getD (rank L i j) false) else at2 L i j
/-- The name with its letters turned. -/
def mixN (L : List (List Int)) (bits : List Bool) : List (List Int) := (List.range L.length).map fun i => (List.range (lab L i).length).map fun j => val L bits i j

/-- One letter turned, as the program does it: so many are turned, and what stands where. -/
def step {L : List (List Int)} (bits : List Bool) (st : Nat × (Nat → Nat → Int)) (x : Pos L) : Nat × (Nat → Nat → Int) :=
  (st.1 + 1, fun i j => if i = x.1.1 ∧ j = x.1.2 then sized (st.2 i j) (bits.getD st.1 false) else st.2 i j)
def after {L : List (List Int)} (bits : List Bool) (pre : List (Pos L)) : Nat × (Nat → Nat → Int) := pre.foldl (step bits) (0, at2 L)

theorem after_nil {L : List (List Int)} (bits : List Bool) : after bits ([] : List (Pos L)) = (0, at2 L) := rfl
theorem after_snoc {L : List (List Int)} (bits : List Bool) (pre : List (Pos L)) (x : Pos L) : after bits (pre ++ [x]) = step bits (after bits pre) x := by
  unfold after; rw [List.foldl_append]; rfl
theorem after_len {L : List (List Int)} (bits : List Bool) : ∀ (pre : List (Pos L)) (st : Nat × (Nat → Nat → Int)), (pre.foldl (step bits) st).1 = st.1 + pre.length
  | [], _ => rfl
  | x :: pre, st => by rw [List.foldl_cons, after_len bits pre]; simp [step]; omega
theorem after_fst {L : List (List Int)} (bits : List Bool) (pre : List (Pos L)) : (after bits pre).1 = pre.length := by unfold after; rw [after_len]; simp

theorem after_isL {L : List (List Int)} (bits : List Bool) (i j : Nat) : ∀ (pre : List (Pos L)) (st : Nat × (Nat → Nat → Int)), isL (st.2 i j) = true → isL ((pre.foldl (step bits) st).2 i j) = true
  | [], _, h => h
  | x :: pre, st, h => by
    rw [List.foldl_cons]
    refine after_isL bits i j pre _ ?_
    unfold step
    simp only
    split
    · exact isL_sized _ h
    · exact h
theorem after_letter {L : List (List Int)} (bits : List Bool) (pre : List (Pos L)) {i j : Nat} (h : ok L i j) : isL ((after bits pre).2 i j) = true := after_isL bits i j pre _ h.2.2

/-- Ahead of a place, in the order of reading. -/
def ahead (a b i j : Nat) : Prop := a < i ∨ (a = i ∧ b < j)
instance (a b i j : Nat) : Decidable (ahead a b i j) := by unfold ahead; infer_instance

/-- All letters ahead of a place are turned, each by its own bit. -/
def Up (L : List (List Int)) (bits : List Bool) (i j : Nat) : Prop :=
  ∀ a b, (after bits (posTo L i j)).2 a b = if ok L a b ∧ ahead a b i j then val L bits a b else at2 L a b

theorem up_next {L : List (List Int)} {bits : List Bool} {i j : Nat} (h : Up L bits i j) : Up L bits i (j + 1) := by
  intro a b
  by_cases hk : ok L i j
  · rw [posTo_letter hk, after_snoc]
    unfold step
    simp only
    by_cases e : a = i ∧ b = j
    · obtain ⟨rfl, rfl⟩ := e
      rw [if_pos ⟨rfl, rfl⟩, h, if_neg (by unfold ahead; omega), if_pos ⟨hk, by unfold ahead; omega⟩, after_fst]
      unfold val rank; rw [if_pos hk]
    · rw [if_neg e, h]
      have : ahead a b i j ↔ ahead a b i (j + 1) := by unfold ahead; omega
      simp only [this]
  · rw [posTo_none hk, h]
    by_cases ha : ok L a b
    · have : ahead a b i j ↔ ahead a b i (j + 1) := by
        unfold ahead
        have : ¬ (a = i ∧ b = j) := by rintro ⟨rfl, rfl⟩; exact hk ha
        omega
      simp only [this]
    · simp [ha]
theorem up_row {L : List (List Int)} {bits : List Bool} {i j : Nat} (h : Up L bits i j) (hj : j = (lab L i).length) : Up L bits (i + 1) 0 := by
  intro a b
  rw [← posTo_row hj, h]
  by_cases ha : ok L a b
  · have : ahead a b i j ↔ ahead a b (i + 1) 0 := by
      unfold ahead
      have := ha.2.1
      constructor
      · omega
      · rintro (h1 | h1)
        · by_cases e : a = i
          · subst e; omega
          · omega
        · omega
    simp only [this]
  · simp [ha]
theorem up_cols {L : List (List Int)} {bits : List Bool} {i : Nat} (h : Up L bits i 0) : ∀ j, Up L bits i j
  | 0 => h
  | j + 1 => up_next (up_cols h j)
theorem up_zero (L : List (List Int)) (bits : List Bool) : Up L bits 0 0 := by
  intro a b; rw [posTo_zero, after_nil, if_neg (by unfold ahead; omega)]
theorem up_rows (L : List (List Int)) (bits : List Bool) : ∀ i, Up L bits i 0
  | 0 => up_zero L bits
  | i + 1 => up_row (up_cols (up_rows L bits i) _) rfl
/-- Behind all letters each place holds what it is to hold. -/
theorem after_all (L : List (List Int)) (bits : List Bool) (a b : Nat) : (after bits (posN L)).2 a b = val L bits a b := by
  have h := up_rows L bits L.length a b
  rw [posTo_end rfl] at h
  rw [h]
  by_cases ha : ok L a b
  · rw [if_pos ⟨ha, Or.inl ha.1⟩]
  · rw [if_neg (fun q => ha q.1)]; unfold val; rw [if_neg ha]

theorem val_byte {L : List (List Int)} (hL : ∀ l ∈ L, ∀ x ∈ l, 0 ≤ x ∧ x ≤ 255) (bits : List Bool) (i j : Nat) : 0 ≤ val L bits i j ∧ val L bits i j ≤ 255 := by
  unfold val
  by_cases h : ok L i j
  · rw [if_pos h]; exact sized_byte _ h.2.2
  · rw [if_neg h]; exact at2_byte hL i j

theorem mixN_len (L : List (List Int)) (bits : List Bool) : (mixN L bits).length = L.length := by simp [mixN]
theorem mixN_lab (L : List (List Int)) (bits : List Bool) {i : Nat} (hi : i < L.length) : lab (mixN L bits) i = (List.range (lab L i).length).map fun j => val L bits i j := by
  unfold lab mixN; simp [List.getD, hi, lab]
theorem mixN_lab_len (L : List (List Int)) (bits : List Bool) (i : Nat) : (lab (mixN L bits) i).length = (lab L i).length := by
  by_cases hi : i < L.length
  · rw [mixN_lab L bits hi]; simp
  · rw [lab_over (by rw [mixN_len]; omega), lab_over (by omega)]
theorem mixN_at (L : List (List Int)) (bits : List Bool) {i j : Nat} (hi : i < L.length) (hj : j < (lab L i).length) : at2 (mixN L bits) i j = val L bits i j := by
  unfold at2; rw [mixN_lab L bits hi]; simp [List.getD, hj]
theorem at2_over {L : List (List Int)} {i j : Nat} (h : ¬ (i < L.length ∧ j < (lab L i).length)) : at2 L i j = 0 := by
  unfold at2
  by_cases hi : i < L.length
  · have : (lab L i).length ≤ j := by omega
    simp [List.getD, this]
  · rw [lab_over (by omega)]; rfl
theorem val_over {L : List (List Int)} (bits : List Bool) {i j : Nat} (h : ¬ (i < L.length ∧ j < (lab L i).length)) : val L bits i j = 0 := by
  unfold val; rw [if_neg (fun q => h ⟨q.1, q.2.1⟩)]; exact at2_over h
theorem mixN_at2 (L : List (List Int)) (bits : List Bool) (i j : Nat) : at2 (mixN L bits) i j = val L bits i j := by
  by_cases h : i < L.length ∧ j < (lab L i).length
  · exact mixN_at L bits h.1 h.2
  · rw [val_over bits h]; exact at2_over (by rw [mixN_len, mixN_lab_len]; exact h)
theorem mixN_ok (L : List (List Int)) (bits : List Bool) (i j : Nat) : ok (mixN L bits) i j ↔ ok L i j := by
  unfold ok
  rw [mixN_len, mixN_lab_len, mixN_at2]
  constructor
  · rintro ⟨h1, h2, h3⟩
    refine ⟨h1, h2, ?_⟩
    unfold val at h3
    by_cases h : ok L i j
    · exact h.2.2
    · rwa [if_neg h] at h3
  · rintro ⟨h1, h2, h3⟩
    refine ⟨h1, h2, ?_⟩
    unfold val
    rw [if_pos ⟨h1, h2, h3⟩]
    exact isL_sized _ h3

/-- Two lists of labels that have the same place by place. -/
theorem ext2 {A B : List (List Int)} (h : A.length = B.length) (hl : ∀ i, (lab A i).length = (lab B i).length) (hv : ∀ i j, at2 A i j = at2 B i j) : A = B := by
  apply List.ext_getElem h
  intro i h1 h2
  have ea : lab A i = A[i] := by simp [lab, List.getD, h1]
  have eb : lab B i = B[i] := by simp [lab, List.getD, h2]
  rw [← ea, ← eb]
  apply List.ext_getElem (hl i)
  intro j g1 g2
  have := hv i j
  unfold at2 at this
  simpa [List.getD, g1, g2] using this

theorem pos_pairs {A B : List (List Int)} (_ : A.length = B.length) (hl : ∀ i, (lab A i).length = (lab B i).length) (hk : ∀ i j, ok A i j ↔ ok B i j) (i j : Nat) : (posTo A i j).map Subtype.val = (posTo B i j).map Subtype.val := by
  have hm : ∀ i j, (mk A i j).map Subtype.val = (mk B i j).map Subtype.val := by
    intro i j; unfold mk
    by_cases h : ok A i j
    · rw [dif_pos h, dif_pos ((hk i j).1 h)]; rfl
    · rw [dif_neg h, dif_neg (fun q => h ((hk i j).2 q))]; rfl
  have hr : ∀ i j, (rowTo A i j).map Subtype.val = (rowTo B i j).map Subtype.val := by
    intro i j
    unfold rowTo
    rw [List.map_filterMap, List.map_filterMap]
    congr 1; funext k; exact hm i k
  unfold posTo
  rw [List.map_append, List.map_append, hr, List.map_flatMap, List.map_flatMap]
  congr 2; funext k; rw [hr, hl]
theorem rank_mix (L : List (List Int)) (bits : List Bool) (i j : Nat) : rank (mixN L bits) i j = rank L i j := by
  unfold rank
  have := congrArg List.length (pos_pairs (mixN_len L bits) (mixN_lab_len L bits) (mixN_ok L bits) i j)
  simpa using this
theorem posN_mix_len (L : List (List Int)) (bits : List Bool) : (posN (mixN L bits)).length = (posN L).length := by
  unfold posN
  have := congrArg List.length (pos_pairs (mixN_len L bits) (mixN_lab_len L bits) (mixN_ok L bits) L.length 0)
  rw [mixN_len]; simpa using this

theorem posN_at {L : List (List Int)} {i j : Nat} (h : ok L i j) : (posN L)[rank L i j]? = some ⟨(i, j), h⟩ := by
  obtain ⟨t, ht⟩ := posTo_prefix L h.1 (j := j + 1) h.2.1
  rw [posTo_letter h] at ht
  unfold rank
  rw [← ht]; simp
theorem rank_lt {L : List (List Int)} {i j : Nat} (h : ok L i j) : rank L i j < (posN L).length := posTo_lt h
theorem greats_at {L : List (List Int)} {i j : Nat} (h : ok L i j) : (greatsN L).getD (rank L i j) false = isG (at2 L i j) := by
  rw [← posN_great]; simp [List.getD, List.getElem?_map, posN_at h, here]
/-- Each number is a letter's. -/
theorem rank_onto {L : List (List Int)} {k : Nat} (h : k < (posN L).length) : ∃ i j, ok L i j ∧ rank L i j = k := by
  have hm : ∀ i, ∀ k, k < (posTo L i 0).length → ∃ a b, ok L a b ∧ rank L a b = k := by
    intro i
    induction i with
    | zero => intro k hk; rw [posTo_zero] at hk; simp at hk
    | succ i ih =>
      have hc : ∀ j, ∀ k, k < (posTo L i j).length → ∃ a b, ok L a b ∧ rank L a b = k := by
        intro j
        induction j with
        | zero => exact ih
        | succ j jh =>
          intro k hk
          by_cases h : ok L i j
          · rw [posTo_letter h] at hk
            by_cases e : k = (posTo L i j).length
            · exact ⟨i, j, h, e.symm⟩
            · exact jh k (by simp at hk; omega)
          · rw [posTo_none h] at hk; exact jh k hk
      intro k hk
      rw [← posTo_row rfl] at hk
      exact hc _ k hk
  exact hm _ k h

/-- Mixed by its own bits it is as it was. -/
theorem mix_own (L : List (List Int)) : mixN L (greatsN L) = L := by
  refine ext2 (mixN_len _ _) (mixN_lab_len _ _) fun i j => ?_
  rw [mixN_at2]; unfold val
  by_cases h : ok L i j
  · rw [if_pos h, greats_at h]; exact sized_own h.2.2
  · rw [if_neg h]
theorem mix_great {L : List (List Int)} {a : List Bool} (ha : (posN L).length ≤ a.length) : greatsN (mixN L a) = a.take (posN L).length := by
  apply List.ext_getElem
  · rw [greats_len, posN_mix_len]; simp; omega
  · intro k h1 h2
    rw [greats_len] at h1
    obtain ⟨i, j, hk, rfl⟩ := rank_onto h1
    have hk' := (mixN_ok L a i j).1 hk
    have e := greats_at hk
    rw [mixN_at2] at e
    unfold val at e
    rw [if_pos hk', isG_sized _ hk'.2.2] at e
    have hr := rank_mix L a i j
    have g1 : rank (mixN L a) i j < (greatsN (mixN L a)).length := by rw [greats_len]; exact h1
    have hr2 : rank L i j < a.length := by have := rank_lt hk'; omega
    simp only [List.getElem_take]
    have e2 : (greatsN (mixN L a)).getD (rank (mixN L a) i j) false = (greatsN (mixN L a))[rank (mixN L a) i j] := by simp [List.getD, g1]
    rw [← e2, e]
    simp only [hr]
    simp [List.getD, hr2]
theorem mix_small (L : List (List Int)) (a : List Bool) : (mixN L a).map (List.map Nm.foI) = L.map (List.map Nm.foI) := by
  have hl : ∀ (A : List (List Int)) i, lab (A.map (List.map Nm.foI)) i = (lab A i).map Nm.foI := by
    intro A i; unfold lab; simp only [List.getD, List.getElem?_map]; cases A[i]? <;> rfl
  have ha : ∀ (A : List (List Int)) i j, at2 (A.map (List.map Nm.foI)) i j = Nm.foI (at2 A i j) := by
    intro A i j; unfold at2; rw [hl]; simp only [List.getD, List.getElem?_map]; cases (lab A i)[j]? <;> rfl
  refine ext2 (by simp [mixN_len]) (fun i => by rw [hl, hl]; simp [mixN_lab_len]) fun i j => ?_
  rw [ha, ha, mixN_at2]; unfold val
  by_cases h : ok L i j
  · rw [if_pos h]; exact foI_sized _ h.2.2
  · rw [if_neg h]
theorem mix_alike {L : List (List Int)} {a b : List Bool} (ha : (posN L).length ≤ a.length) (hb : (posN L).length ≤ b.length) : mixN L a = mixN L b ↔ a.take (posN L).length = b.take (posN L).length := by
  constructor
  · intro h; rw [← mix_great ha, ← mix_great hb, h]
  · intro h
    refine ext2 (by simp [mixN_len]) (fun i => by rw [mixN_lab_len, mixN_lab_len]) fun i j => ?_
    rw [mixN_at2, mixN_at2]; unfold val
    by_cases hk : ok L i j
    · rw [if_pos hk, if_pos hk]
      have hr := rank_lt hk
      have e := congrArg (fun l => l.getD (rank L i j) false) h
      have e' : a[rank L i j]?.getD false = b[rank L i j]?.getD false := by
        simpa [List.getD, List.getElem?_take, hr] using e
      simp only [List.getD, e']
    · rw [if_neg hk, if_neg hk]

end Go.Proofs.YtgfplkhcihcagabDoor.Cp
