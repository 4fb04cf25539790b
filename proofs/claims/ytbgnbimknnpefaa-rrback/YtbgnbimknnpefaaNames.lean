/-
  The walks of Compare, Same and Under over lists of labels that lie in memory: each only reads; what they hand back is what the plain functions cN and under tell.
-/
import Derived.Test.YtbgnbimknnpefaaLabels
namespace Go.Proofs.Ytbgnbimknnpefaa
open Go.RowKit

/-- A slice leads to these labels. -/
def Strs (w : World) (x : Option Addr) (c : Nat) (ss : List ByteArray) : Prop :=
  ss.length ≤ c ∧ ss.length ≤ 8796093022208 ∧ (∀ s ∈ ss, s.size ≤ 140737488355328) ∧
    (ss = [] ∨ ∃ b off, x = some ⟨b, off, none⟩ ∧ b < w.heap.size ∧ ∀ i, i < ss.length → w.cell? ⟨b, off + i, none⟩ = some (.string (ss.getD i ByteArray.empty)))

theorem Strs.below {w w' : World} {x : Option Addr} {c : Nat} {ss : List ByteArray} (h : Strs w x c ss) (k : Below w.heap.size w w') : Strs w' x c ss := by
  obtain ⟨h1, h2, h3, h4⟩ := h
  refine ⟨h1, h2, h3, ?_⟩
  rcases h4 with h4 | ⟨b, off, hx, hb, hc⟩
  · exact Or.inl h4
  · exact Or.inr ⟨b, off, hx, Nat.lt_of_lt_of_le hb k.size, fun i hi => by rw [k.cell (p := ⟨b, off + i, none⟩) hb]; exact hc i hi⟩

theorem Strs.drawn {w w' : World} {x : Option Addr} {c : Nat} {ss : List ByteArray} (h : Strs w x c ss) (k : Drawn w w') : Strs w' x c ss := h.below (k.below _)

def AlikeN (a b : List ByteArray) (k : Nat) : Prop := Nm.cN a b = Nm.lex Nm.cL (a.reverse.drop k) (b.reverse.drop k)

theorem alikeN_zero (a b : List ByteArray) : AlikeN a b 0 := rfl

theorem rev_get (a : List ByteArray) (k : Nat) (h : k < a.length) (h' : k < a.reverse.length) : a.reverse[k] = a.getD (a.length - (k + 1)) ByteArray.empty := by
  rw [List.getElem_reverse, List.getD_eq_getElem?_getD, List.getElem?_eq_getElem (by omega)]
  simp only [Option.getD_some]
  congr 1; omega

theorem alikeN_next {a b : List ByteArray} {k : Nat} (h : AlikeN a b k) (ha : k < a.length) (hb : k < b.length) (e : Nm.cL (a.getD (a.length - (k + 1)) ByteArray.empty) (b.getD (b.length - (k + 1)) ByteArray.empty) = 0) : AlikeN a b (k + 1) := by
  unfold AlikeN at h ⊢
  rw [h]
  exact Nm.lex_step (by simpa using ha) (by simpa using hb) (by rw [rev_get a k ha, rev_get b k hb]; exact e)

theorem alikeN_here {a b : List ByteArray} {k : Nat} (h : AlikeN a b k) (ha : k < a.length) (hb : k < b.length) (e : ¬ Nm.cL (a.getD (a.length - (k + 1)) ByteArray.empty) (b.getD (b.length - (k + 1)) ByteArray.empty) = 0) : Nm.cL (a.getD (a.length - (k + 1)) ByteArray.empty) (b.getD (b.length - (k + 1)) ByteArray.empty) = Nm.cN a b := by
  unfold AlikeN at h
  rw [h, Nm.lex_here (by simpa using ha) (by simpa using hb) (by rw [rev_get a k ha, rev_get b k hb]; exact e), rev_get a k ha, rev_get b k hb]

theorem alikeN_end {a b : List ByteArray} {k : Nat} (h : AlikeN a b k) (ha : k ≤ a.length) (hb : k ≤ b.length) (e : a.length ≤ k ∨ b.length ≤ k) : Nm.cmpI (a.length : Int) (b.length : Int) = Nm.cN a b := by
  unfold AlikeN at h
  rw [h, Nm.lex_end (by simpa using ha) (by simpa using hb) (by simpa using e)]; simp

theorem getD_mem_size {ss : List ByteArray} (h : ∀ s ∈ ss, s.size ≤ 140737488355328) (i : Nat) : (ss.getD i ByteArray.empty).size ≤ 140737488355328 := by
  rw [List.getD_eq_getElem?_getD]
  cases e : ss[i]? with
  | none => simp
  | some s => exact h s (List.mem_of_getElem? e)

theorem hid {p : Prop} (h : p) : Hid p := h

theorem Strs.drop {w : World} {x : Option Addr} {c : Nat} {ss : List ByteArray} (h : Strs w x c ss) (d : Nat) (hd : d ≤ ss.length) : Strs w (x.map fun y => y.add d) (c - d) (ss.drop d) := by
  obtain ⟨h1, h2, h3, h4⟩ := h
  refine ⟨by rw [List.length_drop]; omega, by rw [List.length_drop]; omega, fun s hs => h3 s (List.mem_of_mem_drop hs), ?_⟩
  rcases h4 with h4 | ⟨b, off, rfl, hb, hc⟩
  · left; rw [h4]; simp
  · right
    refine ⟨b, off + d, by simp [Addr.add], hb, fun i hi => ?_⟩
    rw [List.length_drop] at hi
    have := hc (d + i) (by omega)
    rw [show off + d + i = off + (d + i) from by omega, this]
    simp [List.getD_eq_getElem?_getD, List.getElem?_drop]

theorem Strs.none_left {w : World} {x : Option Addr} {c : Nat} {ss : List ByteArray} (_ : Strs w x c ss) (d : Nat) (hd : ss.length ≤ d) : Strs w x 0 (ss.drop d) := by
  rw [List.drop_of_length_le hd]
  exact ⟨Nat.le_refl _, by simp, fun s hs => by simp at hs, Or.inl rfl⟩

theorem under_some {a b : List ByteArray} (h : b.length ≤ a.length) : Nm.under a b = (Nm.cN (a.drop (a.length - b.length)) b == 0) := by
  unfold Nm.under; rw [decide_eq_true h, Bool.true_and]

end Go.Proofs.Ytbgnbimknnpefaa
