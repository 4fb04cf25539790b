/-
  A LAW OF MY OWN: a region that draws, in phases and in several orders: reading operations taken first, an operation that stands alone, one of two, reading ones again, and so on; S holds behind every operation.
-/
import Derived.Test.YtnbabdfcamdapaaForkQ
namespace Go.Proofs.Ytnbabdfcamdapaa
open Go

inductive Pt where
  | nil : Pt
  | one (k : Nat) (t : Pt) : Pt
  | two (k1 : Nat) (t1 : Pt) (k2 : Nat) (t2 : Pt) : Pt
  | qs (idx : List Nat) (t : Pt) : Pt

def Pt.depth : Pt → Nat
  | .nil => 0
  | .one _ t => t.depth + 1
  | .two _ t _ _ => t.depth + 1
  | .qs idx t => idx.length + t.depth

def ptB (md : Region.Mode) (ops : Array Oper) (brk : Nat) : Pt → Array Bool → Bool
  | .nil, listed => (Region.ready md ops listed).isEmpty
  | .one k t, listed => (Region.ready md ops listed == [k]) && ptB md ops brk t (listed.setIfInBounds k true)
  | .two k1 t1 k2 t2, listed => (Region.ready md ops listed == [k1, k2]) && (t1.depth == t2.depth) && ptB md ops brk t1 (listed.setIfInBounds k1 true) && ptB md ops brk t2 (listed.setIfInBounds k2 true)
  | .qs idx t, listed => quietB md ops brk idx listed && ptB md ops brk t (setAll idx listed)

section
variable {P : Program} {Q : Exit → Act → World → Prop} {md : Region.Mode} {S : World → Prop}

/-- What is asked, phase by phase. -/
def ptL (P : Program) (l : List Oper) (Q : Exit → Act → World → Prop) (S : World → Prop) (brk : Nat) : Pt → Act → World → Prop
  | .nil, a, w => Q .normal a w
  | .one k t, a, w => stepL P l Q S brk k (ptL P l Q S brk t) a w
  | .two k1 t1 k2 t2, a, w => stepL P l Q S brk k1 (ptL P l Q S brk t1) a w ∧ stepL P l Q S brk k2 (ptL P l Q S brk t2) a w
  | .qs idx t, a, w => S w ∧ wpQuiet P l.toArray S (fun a' => ptL P l Q S brk t a' w) (idx.filterMap (fun k => l[k]?)) a

theorem anyB_pt {l : List Oper} {brk : Nat} (hs : Region.noSelect l.toArray = true) (hQ : ∀ c a a' w, Q (.panic c) a w → Q (.panic c) a' w)
    (hbrk : ∀ i, i < brk → ∀ (j : Nat) (oj : Oper), l.toArray[j]? = some oj → ¬ j < brk → ∃ e ∈ oj.after, Region.binds md e = true ∧ e.on = i) :
    ∀ (t : Pt) (listed : Array Bool) (a : Act) (w : World), listed.size = l.toArray.size → ptB md l.toArray brk t listed = true → ptL P l Q S brk t a w → anyB P md l.toArray Q S brk t.depth listed a w
  | .nil, listed, a, w, _, hB, h => ⟨by simpa [ptB] using hB, h⟩
  | .one k t, listed, a, w, hls, hB, h => by
    simp only [ptB, Bool.and_eq_true] at hB
    obtain ⟨hr, hB'⟩ := hB
    have hr' : Region.ready md l.toArray listed = [k] := by simpa using hr
    refine ⟨fun q => (by rw [hr'] at q; cases q), fun i hi => ?_⟩
    rw [hr'] at hi
    obtain rfl : i = k := by simpa using hi
    exact wpOp_stepL h (fun a' w' h' => anyB_pt hs hQ hbrk t _ a' w' (by simp [hls]) hB' h')
  | .two k1 t1 k2 t2, listed, a, w, hls, hB, h => by
    simp only [ptB, Bool.and_eq_true] at hB
    obtain ⟨⟨⟨hr, hd⟩, hB1⟩, hB2⟩ := hB
    have hr' : Region.ready md l.toArray listed = [k1, k2] := by simpa using hr
    have hd' : t1.depth = t2.depth := by simpa using hd
    refine ⟨fun q => (by rw [hr'] at q; cases q), fun i hi => ?_⟩
    rw [hr'] at hi
    have hi' : i = k1 ∨ i = k2 := by simpa using hi
    rcases hi' with rfl | rfl
    · exact wpOp_stepL h.1 (fun a' w' h' => anyB_pt hs hQ hbrk t1 _ a' w' (by simp [hls]) hB1 h')
    · exact wpOp_stepL h.2 (fun a' w' h' => by have := anyB_pt hs hQ hbrk t2 _ a' w' (by simp [hls]) hB2 h'; rw [← hd'] at this; exact this)
  | .qs idx t, listed, a, w, hls, hB, h => by
    simp only [ptB, Bool.and_eq_true] at hB
    exact anyB_quiet hs hQ hbrk idx listed a w hls hB.1 h.1 h.2 (fun a' ha => anyB_pt hs hQ hbrk t _ a' w (by rw [setAll_size]; exact hls) hB.2 ha)

/-- THE LAW. -/
theorem wp_region_pt {l : List Oper} (t : Pt) {id : Nat} {a : Act} {w : World} (S : World → Prop) (hm : P.follows .mixedOrders = true)
    (hB : (Region.noSelect l.toArray && ptB .any l.toArray l.length t (Array.replicate l.length false) && decide (t.depth = l.length)) = true)
    (h : ptL P l (Calm Q) S l.length t a w.drew) : (Code.region id l.toArray true).wp P Q a w := by
  refine wp_mono ?_ calm_imp
  refine wp_region_any hm ?_
  simp only [Bool.and_eq_true, decide_eq_true_eq] at hB
  obtain ⟨⟨hs, hT⟩, hlen⟩ := hB
  have key := anyB_pt (P := P) (l := l) (Q := Calm Q) (md := .any) (S := S) (brk := l.length) hs (fun c a a' w q => q.elim)
    (fun i hi j oj hj hjb => by
      exfalso
      simp only [List.getElem?_toArray] at hj
      exact hjb (List.getElem?_eq_some_iff.1 hj).1) t (Array.replicate l.length false) a w.drew (by simp) hT h
  have := wpAny_of_anyB _ _ _ _ key
  rw [hlen] at this
  simpa using this

theorem ptL_nil {l : List Oper} {brk : Nat} {a : Act} {w : World} (h : Q .normal a w) : ptL P l (Calm Q) S brk .nil a w := h

theorem ptL_qs {l : List Oper} {brk : Nat} {idx : List Nat} {t : Pt} {a : Act} {w : World} (hS : S w) (h : wpQuiet P l.toArray S (fun a' => ptL P l Q S brk t a' w) (idx.filterMap (fun k => l[k]?)) a) : ptL P l Q S brk (.qs idx t) a w := ⟨hS, h⟩

end

end Go.Proofs.Ytnbabdfcamdapaa
