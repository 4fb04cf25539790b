/-
  The walks of the document's own answers for names: Small, Numbers, Labels, Names, Below. They only read, and hand back what the plain functions tell.
-/
import Derived.Test.YtlmhcjkkdgdbjaaDoorWalkA
namespace Go.Proofs.YtlmhcjkkdgdbjaaDoor
open Go.RowKit Go.Deep

theorem cmpI_less {x y : Int} (h : x < y) : Nm.cmpI x y = -1 := by unfold Nm.cmpI; rw [if_pos h]
theorem cmpI_more {x y : Int} (h : y < x) : Nm.cmpI x y = 1 := by unfold Nm.cmpI; rw [if_neg (by omega), if_pos h]
theorem cmpI_same {x y : Int} (h : ¬ x < y) (k : ¬ y < x) : Nm.cmpI x y = 0 := by unfold Nm.cmpI; rw [if_neg h, if_neg k]

/-- The last k labels are alike. -/
def TailTo (a b : List ByteArray) (k : Nat) : Prop := ∀ j, j < k → Nm.cL (a.getD (a.length - (j + 1)) ByteArray.empty) (b.getD (b.length - (j + 1)) ByteArray.empty) = 0

theorem getD_drop (a : List ByteArray) (d i : Nat) : (a.drop d).getD i ByteArray.empty = a.getD (d + i) ByteArray.empty := by
  simp [List.getD_eq_getElem?_getD, List.getElem?_drop]

theorem tail_iff {a b : List ByteArray} (h : b.length ≤ a.length) : Nm.under a b = true ↔ TailTo a b b.length := by
  rw [Nm.under_iff]
  constructor
  · rintro ⟨_, e⟩ j hj
    rw [Nm.cL_zero]
    have e2 : ((a.drop (a.length - b.length)).map Nm.fL)[b.length - (j + 1)]? = (b.map Nm.fL)[b.length - (j + 1)]? := by rw [e]
    rw [List.getElem?_map, List.getElem?_map, List.getElem?_drop, List.getElem?_eq_getElem (l := a) (by omega), List.getElem?_eq_getElem (l := b) (by omega)] at e2
    have e3 := Option.some.inj e2
    rw [List.getD_eq_getElem?_getD, List.getD_eq_getElem?_getD, List.getElem?_eq_getElem (l := a) (by omega), List.getElem?_eq_getElem (l := b) (by omega)]
    simp only [Option.getD_some]
    have e4 : a.length - b.length + (b.length - (j + 1)) = a.length - (j + 1) := by omega
    simp only [e4] at e3
    exact e3
  · intro t
    refine ⟨h, ?_⟩
    apply List.ext_getElem
    · simp; omega
    · intro i h1 h2
      rw [List.length_map] at h2
      have := (Nm.cL_zero _ _).1 (t (b.length - (i + 1)) (by omega))
      have e1 : b.length - (b.length - (i + 1) + 1) = i := by omega
      have e2 : a.length - (b.length - (i + 1) + 1) = a.length - b.length + i := by omega
      rw [e1, e2, List.getD_eq_getElem?_getD, List.getD_eq_getElem?_getD, List.getElem?_eq_getElem (l := a) (by omega), List.getElem?_eq_getElem (l := b) h2] at this
      simp only [Option.getD_some] at this
      simpa using this

theorem tail_next {a b : List ByteArray} {k : Nat} (h : TailTo a b k) (e : Nm.cL (a.getD (a.length - (k + 1)) ByteArray.empty) (b.getD (b.length - (k + 1)) ByteArray.empty) = 0) : TailTo a b (k + 1) := by
  intro j hj
  by_cases q : j = k
  · subst q; exact e
  · exact h j (by omega)

theorem tail_not {a b : List ByteArray} {k : Nat} (hl : b.length ≤ a.length) (hk : k < b.length) (e : ¬ Nm.cL (a.getD (a.length - (k + 1)) ByteArray.empty) (b.getD (b.length - (k + 1)) ByteArray.empty) = 0) : false = Nm.under a b := by
  cases q : Nm.under a b
  · rfl
  · exact absurd ((tail_iff hl).1 q k hk) e

theorem tail_all {a b : List ByteArray} {k : Nat} (hl : b.length ≤ a.length) (hk : k = b.length) (h : TailTo a b k) : true = Nm.under a b := by
  subst hk; exact ((tail_iff hl).2 h).symm

end Go.Proofs.YtlmhcjkkdgdbjaaDoor
