/-
  A LAW OF MY OWN: as ForkT's, and an operation whose guard is off may stand alone in a phase: it is passed over.
-/
import Derived.Test.YtnbabdfcamdapaaForkT
namespace Go.Proofs.Ytnbabdfcamdapaa
open Go

section
variable {P : Program} {Q : Exit → Act → World → Prop} {md : Region.Mode} {S : World → Prop}

def stepU (P : Program) (l : List Oper) (Q : Exit → Act → World → Prop) (S : World → Prop) (brk k : Nat) (K : Act → World → Prop) (a : Act) (w : World) : Prop :=
  match l[k]? with
  | some o => if Region.wanted o (yielded l.toArray a.tmps) = true then o.wp P a w (fun a' w' => (k < brk → S w') ∧ K a' w') Q else (k < brk → S w) ∧ K (a.put o.dst undef) w
  | none => False

theorem wpOp_stepU {l : List Oper} {brk k m : Nat} {listed : Array Bool} {K : Act → World → Prop} {a : Act} {w : World} (h : stepU P l Q S brk k K a w)
    (hK : ∀ a' w', K a' w' → anyB P md l.toArray Q S brk m (listed.setIfInBounds k true) a' w') :
    wpOp P l.toArray Q k (fun a' w' => (k < brk → S w') ∧ anyB P md l.toArray Q S brk m (listed.setIfInBounds k true) a' w') a w := by
  unfold stepU at h
  unfold wpOp
  rw [List.getElem?_toArray]
  cases h0 : l[k]? with
  | none => rw [h0] at h; exact h.elim
  | some o =>
    rw [h0] at h
    simp only at h ⊢
    by_cases hw : Region.wanted o (yielded l.toArray a.tmps) = true
    · rw [if_pos hw] at h
      simp only [hw, if_true]
      exact .inl (Oper.wp_mono (fun a' w' hq => ⟨hq.1, hK a' w' hq.2⟩) h)
    · rw [if_neg hw] at h
      rw [if_neg hw]
      exact ⟨h.1, hK _ _ h.2⟩

theorem stepU_at {l : List Oper} {brk k : Nat} {K : Act → World → Prop} {o : Oper} {a : Act} {w : World} (h0 : l[k]? = some o)
    (h : ∀ (K' : Act → World → Prop) (Q' : Exit → Act → World → Prop), (∀ a' w', (k < brk → S w') → K a' w' → K' a' w') → o.wp P a w K' Q') (hw : Region.wanted o (yielded l.toArray a.tmps) = true := by rfl) : stepU P l Q S brk k K a w := by
  unfold stepU
  rw [h0]
  simp only
  rw [if_pos hw]
  exact h _ _ fun _ _ h1 h2 => ⟨h1, h2⟩

/-- Its guard is off. -/
theorem stepU_off {l : List Oper} {brk k : Nat} {K : Act → World → Prop} {o : Oper} {a : Act} {w : World} (h0 : l[k]? = some o)
    (hS : S w) (h : K (a.put o.dst undef) w) (hw : Region.wanted o (yielded l.toArray a.tmps) = false := by rfl) : stepU P l Q S brk k K a w := by
  unfold stepU
  rw [h0]
  simp only
  rw [if_neg (by rw [hw]; decide)]
  exact ⟨fun _ => hS, h⟩

end

section
variable {P : Program} {Q : Exit → Act → World → Prop} {md : Region.Mode} {S : World → Prop}

/-- What is asked, phase by phase. -/
def utL (P : Program) (l : List Oper) (Q : Exit → Act → World → Prop) (S : World → Prop) (brk : Nat) : Pt → Act → World → Prop
  | .nil, a, w => Q .normal a w
  | .one k t, a, w => stepU P l Q S brk k (utL P l Q S brk t) a w
  | .two k1 t1 k2 t2, a, w => stepU P l Q S brk k1 (utL P l Q S brk t1) a w ∧ stepU P l Q S brk k2 (utL P l Q S brk t2) a w
  | .qs idx t, a, w => S w ∧ wpQuiet P l.toArray S (fun a' => utL P l Q S brk t a' w) (idx.filterMap (fun k => l[k]?)) a

theorem anyB_ut {l : List Oper} {brk : Nat} (hs : Region.noSelect l.toArray = true) (hQ : ∀ c a a' w, Q (.panic c) a w → Q (.panic c) a' w)
    (hbrk : ∀ i, i < brk → ∀ (j : Nat) (oj : Oper), l.toArray[j]? = some oj → ¬ j < brk → ∃ e ∈ oj.after, Region.binds md e = true ∧ e.on = i) :
    ∀ (t : Pt) (listed : Array Bool) (a : Act) (w : World), listed.size = l.toArray.size → ptB md l.toArray brk t listed = true → utL P l Q S brk t a w → anyB P md l.toArray Q S brk t.depth listed a w
  | .nil, listed, a, w, _, hB, h => ⟨by simpa [ptB] using hB, h⟩
  | .one k t, listed, a, w, hls, hB, h => by
    simp only [ptB, Bool.and_eq_true] at hB
    obtain ⟨hr, hB'⟩ := hB
    have hr' : Region.ready md l.toArray listed = [k] := by simpa using hr
    refine ⟨fun q => (by rw [hr'] at q; cases q), fun i hi => ?_⟩
    rw [hr'] at hi
    obtain rfl : i = k := by simpa using hi
    exact wpOp_stepU h (fun a' w' h' => anyB_ut hs hQ hbrk t _ a' w' (by simp [hls]) hB' h')
  | .two k1 t1 k2 t2, listed, a, w, hls, hB, h => by
    simp only [ptB, Bool.and_eq_true] at hB
    obtain ⟨⟨⟨hr, hd⟩, hB1⟩, hB2⟩ := hB
    have hr' : Region.ready md l.toArray listed = [k1, k2] := by simpa using hr
    have hd' : t1.depth = t2.depth := by simpa using hd
    refine ⟨fun q => (by rw [hr'] at q; cases q), fun i hi => ?_⟩
    rw [hr'] at hi
    have hi' : i = k1 ∨ i = k2 := by simpa using hi
    rcases hi' with rfl | rfl
    · exact wpOp_stepU h.1 (fun a' w' h' => anyB_ut hs hQ hbrk t1 _ a' w' (by simp [hls]) hB1 h')
    · exact wpOp_stepU h.2 (fun a' w' h' => by have := anyB_ut hs hQ hbrk t2 _ a' w' (by simp [hls]) hB2 h'; rw [← hd'] at this; exact this)
  | .qs idx t, listed, a, w, hls, hB, h => by
    simp only [ptB, Bool.and_eq_true] at hB
    exact anyB_quiet hs hQ hbrk idx listed a w hls hB.1 h.1 h.2 (fun a' ha => anyB_ut hs hQ hbrk t _ a' w (by rw [setAll_size]; exact hls) hB.2 ha)

/-- THE LAW. -/
theorem wp_region_ut {l : List Oper} (t : Pt) {id : Nat} {a : Act} {w : World} (S : World → Prop) (hm : P.follows .mixedOrders = true)
    (hB : (Region.noSelect l.toArray && ptB .any l.toArray l.length t (Array.replicate l.length false) && decide (t.depth = l.length)) = true)
    (h : utL P l (Calm Q) S l.length t a w.drew) : (Code.region id l.toArray true).wp P Q a w := by
  refine wp_mono ?_ calm_imp
  refine wp_region_any hm ?_
  simp only [Bool.and_eq_true, decide_eq_true_eq] at hB
  obtain ⟨⟨hs, hT⟩, hlen⟩ := hB
  have key := anyB_ut (P := P) (l := l) (Q := Calm Q) (md := .any) (S := S) (brk := l.length) hs (fun c a a' w q => q.elim)
    (fun i hi j oj hj hjb => by
      exfalso
      simp only [List.getElem?_toArray] at hj
      exact hjb (List.getElem?_eq_some_iff.1 hj).1) t (Array.replicate l.length false) a w.drew (by simp) hT h
  have := wpAny_of_anyB _ _ _ _ key
  rw [hlen] at this
  simpa using this

theorem utL_nil {l : List Oper} {brk : Nat} {a : Act} {w : World} (h : Q .normal a w) : utL P l (Calm Q) S brk .nil a w := h

theorem utL_qs {l : List Oper} {brk : Nat} {idx : List Nat} {t : Pt} {a : Act} {w : World} (hS : S w) (h : wpQuiet P l.toArray S (fun a' => utL P l Q S brk t a' w) (idx.filterMap (fun k => l[k]?)) a) : utL P l Q S brk (.qs idx t) a w := ⟨hS, h⟩

end

end Go.Proofs.Ytnbabdfcamdapaa
