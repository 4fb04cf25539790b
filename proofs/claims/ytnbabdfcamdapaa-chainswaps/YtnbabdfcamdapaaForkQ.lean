/-
  A LAW OF MY OWN: a region that draws, in phases: reading operations taken first, an operation that stands alone, reading ones again, and so on; S holds behind every operation.
-/
import Derived.Test.YtnbabdfcamdapaaForks
namespace Go.Proofs.Ytnbabdfcamdapaa
open Go

inductive Ph where
  | nil : Ph
  | one (k : Nat) (t : Ph) : Ph
  | qs (idx : List Nat) (t : Ph) : Ph

def Ph.depth : Ph → Nat
  | .nil => 0
  | .one _ t => t.depth + 1
  | .qs idx t => idx.length + t.depth

def quietB (md : Region.Mode) (ops : Array Oper) (brk : Nat) : List Nat → Array Bool → Bool
  | [], _ => true
  | k :: idx, listed => decide (k < brk) && (Region.ready md ops listed).contains k && Region.free md ops listed k && (match ops[k]? with | some o => simpleOp o.op | none => false) && quietB md ops brk idx (listed.setIfInBounds k true)

def setAll : List Nat → Array Bool → Array Bool
  | [], listed => listed
  | k :: idx, listed => setAll idx (listed.setIfInBounds k true)

theorem setAll_size (idx : List Nat) (listed : Array Bool) : (setAll idx listed).size = listed.size := by
  induction idx generalizing listed with
  | nil => rfl
  | cons k idx ih => rw [setAll, ih]; simp

def phB (md : Region.Mode) (ops : Array Oper) (brk : Nat) : Ph → Array Bool → Bool
  | .nil, listed => (Region.ready md ops listed).isEmpty
  | .one k t, listed => (Region.ready md ops listed == [k]) && phB md ops brk t (listed.setIfInBounds k true)
  | .qs idx t, listed => quietB md ops brk idx listed && phB md ops brk t (setAll idx listed)

section
variable {P : Program} {Q : Exit → Act → World → Prop} {md : Region.Mode} {S : World → Prop}

/-- What is asked, phase by phase. -/
def phL (P : Program) (l : List Oper) (Q : Exit → Act → World → Prop) (S : World → Prop) (brk : Nat) : Ph → Act → World → Prop
  | .nil, a, w => Q .normal a w
  | .one k t, a, w => stepL P l Q S brk k (phL P l Q S brk t) a w
  | .qs idx t, a, w => S w ∧ wpQuiet P l.toArray S (fun a' => phL P l Q S brk t a' w) (idx.filterMap (fun k => l[k]?)) a

theorem anyB_quiet {l : List Oper} {brk n : Nat} {K : Act → Prop} (hs : Region.noSelect l.toArray = true) (hQ : ∀ c a a' w, Q (.panic c) a w → Q (.panic c) a' w)
    (hbrk : ∀ i, i < brk → ∀ (j : Nat) (oj : Oper), l.toArray[j]? = some oj → ¬ j < brk → ∃ e ∈ oj.after, Region.binds md e = true ∧ e.on = i) :
    ∀ (idx : List Nat) (listed : Array Bool) (a : Act) (w : World), listed.size = l.toArray.size →
      quietB md l.toArray brk idx listed = true → S w → wpQuiet P l.toArray S K (idx.filterMap (fun k => l[k]?)) a → (∀ a', K a' → anyB P md l.toArray Q S brk n (setAll idx listed) a' w) →
      anyB P md l.toArray Q S brk (idx.length + n) listed a w
  | [], listed, a, w, _, _, _, h, hK => by
    rw [List.length_nil, Nat.zero_add]
    exact hK a h
  | k :: idx, listed, a, w, hls, hB, hS, h, hK => by
    simp only [quietB, Bool.and_eq_true, decide_eq_true_eq] at hB
    obtain ⟨⟨⟨⟨hkb, hr⟩, hf⟩, hso⟩, hB'⟩ := hB
    cases h0 : l.toArray[k]? with
    | none => rw [h0] at hso; cases hso
    | some o =>
      rw [h0] at hso
      have h0' : l[k]? = some o := by simpa using h0
      rw [List.filterMap_cons, h0'] at h
      have hy : ∃ v, YieldsIf P l.toArray S o v a ∧ wpQuiet P l.toArray S K (idx.filterMap (fun k => l[k]?)) (a.put o.dst v) := by
        unfold wpQuiet at h
        by_cases hw : Region.wanted o (yielded l.toArray a.tmps) = true
        · simp only [hw, if_true] at h
          obtain ⟨v, hv, hn⟩ := h
          exact ⟨v, yieldsIf_of_quiet hso hw hv, hn⟩
        · simp only [hw, if_false, Bool.false_eq_true] at h
          exact ⟨undef, .inr ⟨by simpa using hw, rfl⟩, h⟩
      obtain ⟨v, hy, hn⟩ := hy
      rw [List.length_cons, show idx.length + 1 + n = (idx.length + n) + 1 from by omega]
      refine anyB_first h0 (Region.noSelect_spec hs) (fun c a' w' q => hQ c _ _ w' q) hkb (hbrk k hkb) _ listed a w hls (Region.free_spec h0 hf) (by simpa using hr) hy hS ?_
      exact anyB_quiet hs hQ hbrk idx _ _ w (by simp [hls]) hB' hS hn hK

theorem anyB_ph {l : List Oper} {brk : Nat} (hs : Region.noSelect l.toArray = true) (hQ : ∀ c a a' w, Q (.panic c) a w → Q (.panic c) a' w)
    (hbrk : ∀ i, i < brk → ∀ (j : Nat) (oj : Oper), l.toArray[j]? = some oj → ¬ j < brk → ∃ e ∈ oj.after, Region.binds md e = true ∧ e.on = i) :
    ∀ (t : Ph) (listed : Array Bool) (a : Act) (w : World), listed.size = l.toArray.size → phB md l.toArray brk t listed = true → phL P l Q S brk t a w → anyB P md l.toArray Q S brk t.depth listed a w
  | .nil, listed, a, w, _, hB, h => ⟨by simpa [phB] using hB, h⟩
  | .one k t, listed, a, w, hls, hB, h => by
    simp only [phB, Bool.and_eq_true] at hB
    obtain ⟨hr, hB'⟩ := hB
    have hr' : Region.ready md l.toArray listed = [k] := by simpa using hr
    refine ⟨fun q => (by rw [hr'] at q; cases q), fun i hi => ?_⟩
    rw [hr'] at hi
    obtain rfl : i = k := by simpa using hi
    exact wpOp_stepL h (fun a' w' h' => anyB_ph hs hQ hbrk t _ a' w' (by simp [hls]) hB' h')
  | .qs idx t, listed, a, w, hls, hB, h => by
    simp only [phB, Bool.and_eq_true] at hB
    exact anyB_quiet hs hQ hbrk idx listed a w hls hB.1 h.1 h.2 (fun a' ha => anyB_ph hs hQ hbrk t _ a' w (by rw [setAll_size]; exact hls) hB.2 ha)

/-- THE LAW. -/
theorem wp_region_ph {l : List Oper} (t : Ph) {id : Nat} {a : Act} {w : World} (S : World → Prop) (hm : P.follows .mixedOrders = true)
    (hB : (Region.noSelect l.toArray && phB .any l.toArray l.length t (Array.replicate l.length false) && decide (t.depth = l.length)) = true)
    (h : phL P l (Calm Q) S l.length t a w.drew) : (Code.region id l.toArray true).wp P Q a w := by
  refine wp_mono ?_ calm_imp
  refine wp_region_any hm ?_
  simp only [Bool.and_eq_true, decide_eq_true_eq] at hB
  obtain ⟨⟨hs, hT⟩, hlen⟩ := hB
  have key := anyB_ph (P := P) (l := l) (Q := Calm Q) (md := .any) (S := S) (brk := l.length) hs (fun c a a' w q => q.elim)
    (fun i hi j oj hj hjb => by
      exfalso
      simp only [List.getElem?_toArray] at hj
      exact hjb (List.getElem?_eq_some_iff.1 hj).1) t (Array.replicate l.length false) a w.drew (by simp) hT h
  have := wpAny_of_anyB _ _ _ _ key
  rw [hlen] at this
  simpa using this

theorem phL_nil {l : List Oper} {brk : Nat} {a : Act} {w : World} (h : Q .normal a w) : phL P l (Calm Q) S brk .nil a w := h

theorem phL_qs {l : List Oper} {brk : Nat} {idx : List Nat} {t : Ph} {a : Act} {w : World} (hS : S w) (h : wpQuiet P l.toArray S (fun a' => phL P l Q S brk t a' w) (idx.filterMap (fun k => l[k]?)) a) : phL P l Q S brk (.qs idx t) a w := ⟨hS, h⟩

end

end Go.Proofs.Ytnbabdfcamdapaa
