/-
  The walk of split: the labels of a text, cut as the plain function splitN cuts it; it makes its own memory, and writes nothing that was there.
-/
import Derived.Test.YtbgnbimknnpefaaTextWalk
import Derived.Test.YtbgnbimknnpefaaFirst
namespace Go.Proofs.Ytbgnbimknnpefaa
open Go.RowKit Go.Deep

/-- A slice of texts of the call's own. -/
def Rowt (w : World) (B : Nat) (v : Value) (ls : List (List Int)) : Prop := w.ownsRow B 9 1 v ls.length (ls.map fun l => Value.string (strOfNums l))

theorem Rowt.of {w : World} {B n : Nat} {v : Value} {xs : List (List Int)} {ys : List Value} (h : w.ownsRow B 9 1 v n ys) (hn : n = xs.length) (hy : ys = xs.map fun l => Value.string (strOfNums l)) : Rowt w B v xs := by
  subst hn hy; exact h

theorem owns_drawn {w w' : World} {B e n : Nat} {v : Value} {xs : List Value} (h : w.ownsRow B e 1 v n xs) (k : Drawn w w') : w'.ownsRow B e 1 v n xs := by
  obtain ⟨m, rfl⟩ := k; exact h

theorem apart {w : World} {B n m : Nat} {v u : Value} {xs ys : List Value} (h : w.ownsRow B 9 1 v n xs) (k : w.ownsRow B 5 1 u m ys) : (v.ownBlock = none ∨ v.ownBlock ≠ u.ownBlock) ∧ (u.ownBlock = none ∨ u.ownBlock ≠ v.ownBlock) := by
  rcases h.2 with ⟨rfl, _⟩ | ⟨g, cap, cur, rfl, _, hh, _⟩
  · refine ⟨Or.inl rfl, ?_⟩
    rcases k.2 with ⟨rfl, _⟩ | ⟨g', cap', cur', rfl, _⟩
    · exact Or.inl rfl
    · right; intro q; cases q
  · rcases k.2 with ⟨rfl, _⟩ | ⟨g', cap', cur', rfl, _, hh', _⟩
    · refine ⟨?_, Or.inl rfl⟩
      right; intro q; cases q
    · have ne : g ≠ g' := by
        intro q
        subst q
        rw [hh] at hh'
        simp at hh'
      exact ⟨Or.inr (fun q => by simp [Value.ownBlock] at q; exact ne q), Or.inr (fun q => by simp [Value.ownBlock] at q; exact ne q.symm)⟩

theorem rowb_cut {w : World} {B : Nat} {g cap : Nat} {xs : List Int} (h : Rowb w B (.slice (some ⟨g, 0, none⟩) xs.length cap) xs) : Rowb w B (.slice (some ⟨g, 0, none⟩) 0 cap) [] := by
  obtain ⟨_, h2⟩ := h
  rcases h2 with ⟨h3, _⟩ | ⟨g', cap', cur, hv, hb, hh, _, hm, hs, _⟩
  · cases h3
  · cases hv
    exact ⟨rfl, .inr ⟨g, cap, cur, rfl, hb, hh, Nat.zero_le _, hm, hs, by simp⟩⟩

theorem first_le : ∀ (l : List Int), l ≠ [] → (Nm.first l).2 ≤ l.length := by
  intro l h
  match l, h with
  | [c], _ => simp [Nm.first]
  | c :: d :: r, _ =>
    simp only [Nm.first]
    split
    · split
      · split <;> simp
      · simp
    · simp

theorem first_byte (l : List Int) (h : ∀ x ∈ l, 0 ≤ x ∧ x ≤ 255) : 0 ≤ (Nm.first l).1 ∧ (Nm.first l).1 ≤ 255 := by
  match l with
  | [] => simp [Nm.first]
  | [c] => simpa [Nm.first] using h c (by simp)
  | c :: d :: r =>
    have hc := h c (by simp)
    have hd := h d (by simp)
    simp only [Nm.first]
    split
    · split
      · split
        · simp only; omega
        · exact hd
      · exact hd
    · exact hc

theorem bs_extract (t : ByteArray) (k : Nat) : Nm.bs (t.extract k t.size) = (Nm.bs t).drop k := by
  unfold Nm.bs
  have h : t.data.toList.extract k t.size = t.data.toList.drop k := by
    rw [List.extract_eq_take_drop]
    apply List.take_of_length_le
    simp
  rw [ByteArray.data_extract, Array.toList_extract, h, List.map_drop]

/-- What is left of a text, what has been gathered, and that the rest is cut so. -/
def SplitAt (s t : ByteArray) (label : List Int) (labels : List (List Int)) : Prop :=
  t.size + label.length ≤ s.size ∧ t.size + labels.length ≤ s.size ∧ (∀ l ∈ labels, l.length ≤ s.size) ∧ Nm.splitN (Nm.bs s) = Nm.splitGo t.size (Nm.bs t) label labels

theorem split_start (s : ByteArray) : SplitAt s s [] [] := by
  refine ⟨by simp, by simp, by simp, ?_⟩
  unfold Nm.splitN; rw [bs_length]

theorem split_round {s t : ByteArray} {label : List Int} {labels : List (List Int)} (h : SplitAt s t label labels) (ht : 0 < t.size) :
    ((t[0].toNat : Int) = 46 → SplitAt s (t.extract (Nm.first (Nm.bs t)).2 t.size) [] (labels ++ [label])) ∧
    (¬ (t[0].toNat : Int) = 46 → SplitAt s (t.extract (Nm.first (Nm.bs t)).2 t.size) (label ++ [(Nm.first (Nm.bs t)).1]) labels) := by
  obtain ⟨h1, h2, h3, h4⟩ := h
  have hp := Nm.first_pos (Nm.bs t)
  have e := bs_cons t 0 ht
  rw [List.drop_zero] at e
  have hz : (t.extract (Nm.first (Nm.bs t)).2 t.size).size = t.size - (Nm.first (Nm.bs t)).2 := by
    rw [← bs_length, bs_extract, List.length_drop, bs_length]
  obtain ⟨m, hm⟩ : ∃ m, t.size = m + 1 := ⟨t.size - 1, by omega⟩
  have key : ∀ lb lbs, Nm.splitGo m ((Nm.bs t).drop (Nm.first (Nm.bs t)).2) lb lbs = Nm.splitGo (t.extract (Nm.first (Nm.bs t)).2 t.size).size (Nm.bs (t.extract (Nm.first (Nm.bs t)).2 t.size)) lb lbs := by
    intro lb lbs
    rw [bs_extract, hz]
    exact Nm.split_more _ _ _ _ _ (by rw [List.length_drop, bs_length]; omega) (by rw [List.length_drop, bs_length]; exact Nat.le_refl _)
  constructor
  · intro hc
    refine ⟨by rw [hz]; simp only [List.length_nil]; omega, by rw [hz]; simp only [List.length_append, List.length_singleton]; omega, fun l hl => ?_, ?_⟩
    · rcases List.mem_append.1 hl with q | q
      · exact h3 l q
      · rw [List.mem_singleton.1 q]; omega
    · rw [h4, hm, ← hm, ← key, hm]
      conv => lhs; rw [e]
      simp only [Nm.splitGo]
      rw [if_pos hc, ← e]
  · intro hc
    refine ⟨by rw [hz]; simp only [List.length_append, List.length_singleton]; omega, by rw [hz]; omega, h3, ?_⟩
    rw [h4, ← key, hm]
    conv => lhs; rw [e]
    simp only [Nm.splitGo]
    rw [if_neg hc, ← e]

theorem split_done {s t : ByteArray} {label : List Int} {labels : List (List Int)} (h : SplitAt s t label labels) (ht : t.size = 0) : labels = Nm.splitN (Nm.bs s) := by
  rw [h.2.2.2, ht]; rfl

end Go.Proofs.Ytbgnbimknnpefaa
