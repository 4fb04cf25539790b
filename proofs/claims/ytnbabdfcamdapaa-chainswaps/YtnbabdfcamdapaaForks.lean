/-
  A LAW OF MY OWN: a region that draws: those operations that only read are taken first, the rest comes in one of several orders (a tree), each order a goal.
-/
import Derived.Test.YtnbabdfcamdapaaTails
namespace Go.Proofs.Ytnbabdfcamdapaa
open Go

inductive Tr where
  | nil : Tr
  | one (k : Nat) (t : Tr) : Tr
  | two (k1 : Nat) (t1 : Tr) (k2 : Nat) (t2 : Tr) : Tr

def Tr.depth : Tr → Nat
  | .nil => 0
  | .one _ t => t.depth + 1
  | .two _ t _ _ => t.depth + 1

section
variable {P : Program} {ops : Array Oper} {Q : Exit → Act → World → Prop} {md : Region.Mode} {S : World → Prop}

def treeB (md : Region.Mode) (ops : Array Oper) : Tr → Array Bool → Bool
  | .nil, listed => (Region.ready md ops listed).isEmpty
  | .one k t, listed => (Region.ready md ops listed == [k]) && treeB md ops t (listed.setIfInBounds k true)
  | .two k1 t1 k2 t2, listed => (Region.ready md ops listed == [k1, k2]) && (t1.depth == t2.depth) && treeB md ops t1 (listed.setIfInBounds k1 true) && treeB md ops t2 (listed.setIfInBounds k2 true)

def stepL (P : Program) (l : List Oper) (Q : Exit → Act → World → Prop) (S : World → Prop) (brk k : Nat) (K : Act → World → Prop) (a : Act) (w : World) : Prop :=
  match l[k]? with | some o => Region.wanted o (yielded l.toArray a.tmps) = true ∧ o.wp P a w (fun a' w' => (k < brk → S w') ∧ K a' w') Q | none => False

/-- What is asked of the rest, an order after the other. -/
def treeL (P : Program) (l : List Oper) (Q : Exit → Act → World → Prop) (S : World → Prop) (brk : Nat) : Tr → Act → World → Prop
  | .nil, a, w => Q .normal a w
  | .one k t, a, w => stepL P l Q S brk k (treeL P l Q S brk t) a w
  | .two k1 t1 k2 t2, a, w => stepL P l Q S brk k1 (treeL P l Q S brk t1) a w ∧ stepL P l Q S brk k2 (treeL P l Q S brk t2) a w

theorem wpOp_stepL {l : List Oper} {brk k m : Nat} {listed : Array Bool} {K : Act → World → Prop} {a : Act} {w : World} (h : stepL P l Q S brk k K a w)
    (hK : ∀ a' w', K a' w' → anyB P md l.toArray Q S brk m (listed.setIfInBounds k true) a' w') :
    wpOp P l.toArray Q k (fun a' w' => (k < brk → S w') ∧ anyB P md l.toArray Q S brk m (listed.setIfInBounds k true) a' w') a w := by
  unfold stepL at h
  unfold wpOp
  rw [List.getElem?_toArray]
  cases h0 : l[k]? with
  | none => rw [h0] at h; exact h.elim
  | some o =>
    rw [h0] at h
    obtain ⟨hwant, h⟩ := h
    simp only [hwant, if_true]
    exact .inl (Oper.wp_mono (fun a' w' hq => ⟨hq.1, hK a' w' hq.2⟩) h)

theorem anyB_tree {l : List Oper} {brk : Nat} : ∀ (t : Tr) (listed : Array Bool) (a : Act) (w : World), treeB md l.toArray t listed = true → treeL P l Q S brk t a w → anyB P md l.toArray Q S brk t.depth listed a w
  | .nil, listed, a, w, hB, h => ⟨by simpa [treeB] using hB, h⟩
  | .one k t, listed, a, w, hB, h => by
    simp only [treeB, Bool.and_eq_true] at hB
    obtain ⟨hr, hB'⟩ := hB
    have hr' : Region.ready md l.toArray listed = [k] := by simpa using hr
    refine ⟨fun q => (by rw [hr'] at q; cases q), fun i hi => ?_⟩
    rw [hr'] at hi
    obtain rfl : i = k := by simpa using hi
    exact wpOp_stepL h (fun a' w' h' => anyB_tree t _ a' w' hB' h')
  | .two k1 t1 k2 t2, listed, a, w, hB, h => by
    simp only [treeB, Bool.and_eq_true] at hB
    obtain ⟨⟨⟨hr, hd⟩, hB1⟩, hB2⟩ := hB
    have hr' : Region.ready md l.toArray listed = [k1, k2] := by simpa using hr
    have hd' : t1.depth = t2.depth := by simpa using hd
    refine ⟨fun q => (by rw [hr'] at q; cases q), fun i hi => ?_⟩
    rw [hr'] at hi
    have hi' : i = k1 ∨ i = k2 := by simpa using hi
    rcases hi' with rfl | rfl
    · exact wpOp_stepL h.1 (fun a' w' h' => anyB_tree t1 _ a' w' hB1 h')
    · exact wpOp_stepL h.2 (fun a' w' h' => by have := anyB_tree t2 _ a' w' hB2 h'; rw [← hd'] at this; exact this)

def pickT (md : Region.Mode) (ops : Array Oper) (brk : Nat) (t : Tr) : List Nat → Array Bool → Bool
  | [], listed => treeB md ops t listed
  | k :: pre, listed => decide (k < brk) && (Region.ready md ops listed).contains k && Region.free md ops listed k && (match ops[k]? with | some o => simpleOp o.op | none => false) && pickT md ops brk t pre (listed.setIfInBounds k true)

theorem anyB_pickT {l : List Oper} {brk : Nat} {K : Act → Prop} (hs : Region.noSelect l.toArray = true) (hQ : ∀ c a a' w, Q (.panic c) a w → Q (.panic c) a' w) (t : Tr)
    (hbrk : ∀ i, i < brk → ∀ (j : Nat) (oj : Oper), l.toArray[j]? = some oj → ¬ j < brk → ∃ e ∈ oj.after, Region.binds md e = true ∧ e.on = i) :
    ∀ (idx : List Nat) (pre : List Oper) (listed : Array Bool) (a : Act) (w : World), idx.map (fun k => l.toArray[k]?) = pre.map some → listed.size = l.toArray.size →
      pickT md l.toArray brk t idx listed = true → S w → wpQuiet P l.toArray S K pre a → (∀ a', K a' → treeL P l Q S brk t a' w) →
      anyB P md l.toArray Q S brk (pre.length + t.depth) listed a w
  | [], [], listed, a, w, _, _, hB, _, h, hK => by
    rw [List.length_nil, Nat.zero_add]
    exact anyB_tree t listed a w hB (hK a h)
  | [], _ :: _, _, _, _, he, _, _, _, _, _ => by simp at he
  | _ :: _, [], _, _, _, he, _, _, _, _, _ => by simp at he
  | k :: idx, o :: pre, listed, a, w, he, hls, hB, hS, h, hK => by
    simp only [List.map_cons, List.cons.injEq] at he
    obtain ⟨h0, he2⟩ := he
    simp only [pickT, Bool.and_eq_true, h0, decide_eq_true_eq] at hB
    obtain ⟨⟨⟨⟨hkb, hr⟩, hf⟩, hso⟩, hB'⟩ := hB
    have hy : ∃ v, YieldsIf P l.toArray S o v a ∧ wpQuiet P l.toArray S K pre (a.put o.dst v) := by
      unfold wpQuiet at h
      by_cases hw : Region.wanted o (yielded l.toArray a.tmps) = true
      · rw [if_pos hw] at h
        obtain ⟨v, hv, hn⟩ := h
        exact ⟨v, yieldsIf_of_quiet hso hw hv, hn⟩
      · rw [if_neg hw] at h
        exact ⟨undef, .inr ⟨by simpa using hw, rfl⟩, h⟩
    obtain ⟨v, hy, hn⟩ := hy
    rw [List.length_cons, show pre.length + 1 + t.depth = (pre.length + t.depth) + 1 from by omega]
    refine anyB_first h0 (Region.noSelect_spec hs) (fun c a' w' q => hQ c _ _ w' q) hkb (hbrk k hkb) _ listed a w hls (Region.free_spec h0 hf) (by simpa using hr) hy hS ?_
    exact anyB_pickT hs hQ t hbrk idx pre _ _ w he2 (by simp [hls]) hB' hS hn hK

/-- The last operation alone waits for all others. -/
def forksB (l : List Oper) (idx : List Nat) (t : Tr) : Bool :=
  Region.noSelect l.toArray && pickT .any l.toArray (l.length - 1) t idx (Array.replicate l.length false) && decide (idx.length + t.depth = l.length) &&
    (match l.getLast? with | some o => (List.range (l.length - 1)).all fun j => o.after.any fun e => Region.binds .any e && e.on == j | none => false)

theorem fork_any {l : List Oper} (idx : List Nat) (t : Tr) {pre : List Oper} {a : Act} {w : World} (S : World → Prop) (hpre : idx.map (fun k => l.toArray[k]?) = pre.map some)
    (hB : forksB l idx t = true) (hS : S w)
    (h : wpQuiet P l.toArray S (fun a' => treeL P l (Calm Q) S (l.length - 1) t a' w) pre a) : wpAny P .any l.toArray (Calm Q) l.length (Array.replicate l.length false) a w := by
  unfold forksB at hB
  simp only [Bool.and_eq_true, decide_eq_true_eq] at hB
  obtain ⟨⟨⟨hs, hT⟩, hlen⟩, hL⟩ := hB
  have e1 : pre.length = idx.length := by have := congrArg List.length hpre; simpa using this.symm
  have key := anyB_pickT (P := P) (l := l) (Q := Calm Q) (md := .any) (S := S) (brk := l.length - 1) (K := fun a' => treeL P l (Calm Q) S (l.length - 1) t a' w) hs (fun c a a' w q => q.elim) t
    (fun i hi j oj hj hjb => by
      have hjl : j < l.length := by
        simp only [List.getElem?_toArray] at hj
        exact (List.getElem?_eq_some_iff.1 hj).1
      obtain rfl : j = l.length - 1 := by omega
      have hlast : l.getLast? = some oj := by rw [List.getLast?_eq_getElem?]; simpa using hj
      rw [hlast] at hL
      simp only [List.all_eq_true, List.mem_range] at hL
      have := hL i hi
      rw [Array.any_eq_true'] at this
      obtain ⟨e, he, h5⟩ := this
      simp only [Bool.and_eq_true, beq_iff_eq] at h5
      exact ⟨e, he, h5.1, h5.2⟩)
    idx pre (Array.replicate l.length false) a w hpre (by simp) hT hS h (fun a' ha => ha)
  have := wpAny_of_anyB _ _ _ _ key
  rwa [e1, hlen] at this

/-- THE LAW. -/
theorem wp_region_fork {l : List Oper} (idx : List Nat) (t : Tr) {id : Nat} {a : Act} {w : World} (S : World → Prop) (hm : P.follows .mixedOrders = true) (hi : idx.all (fun k => decide (k < l.length)) = true)
    (hB : forksB l idx t = true) (hS : S w.drew)
    (h : wpQuiet P l.toArray S (fun a' => treeL P l (Calm Q) S (l.length - 1) t a' w.drew) (idx.filterMap (fun k => l[k]?)) a) : (Code.region id l.toArray true).wp P Q a w := by
  refine wp_mono ?_ calm_imp
  refine wp_region_any hm ?_
  have := fork_any (Q := Q) idx t S (pre_some hi) hB hS h
  simpa using this

/-- The same where S holds behind every operation, the last one too: nothing need wait for all others. -/
def forksA (l : List Oper) (idx : List Nat) (t : Tr) : Bool :=
  Region.noSelect l.toArray && pickT .any l.toArray l.length t idx (Array.replicate l.length false) && decide (idx.length + t.depth = l.length)

theorem fork_anyA {l : List Oper} (idx : List Nat) (t : Tr) {pre : List Oper} {a : Act} {w : World} (S : World → Prop) (hpre : idx.map (fun k => l.toArray[k]?) = pre.map some)
    (hB : forksA l idx t = true) (hS : S w)
    (h : wpQuiet P l.toArray S (fun a' => treeL P l (Calm Q) S l.length t a' w) pre a) : wpAny P .any l.toArray (Calm Q) l.length (Array.replicate l.length false) a w := by
  unfold forksA at hB
  simp only [Bool.and_eq_true, decide_eq_true_eq] at hB
  obtain ⟨⟨hs, hT⟩, hlen⟩ := hB
  have e1 : pre.length = idx.length := by have := congrArg List.length hpre; simpa using this.symm
  have key := anyB_pickT (P := P) (l := l) (Q := Calm Q) (md := .any) (S := S) (brk := l.length) (K := fun a' => treeL P l (Calm Q) S l.length t a' w) hs (fun c a a' w q => q.elim) t
    (fun i hi j oj hj hjb => by
      exfalso
      simp only [List.getElem?_toArray] at hj
      exact hjb (List.getElem?_eq_some_iff.1 hj).1)
    idx pre (Array.replicate l.length false) a w hpre (by simp) hT hS h (fun a' ha => ha)
  have := wpAny_of_anyB _ _ _ _ key
  rwa [e1, hlen] at this

theorem wp_region_forkA {l : List Oper} (idx : List Nat) (t : Tr) {id : Nat} {a : Act} {w : World} (S : World → Prop) (hm : P.follows .mixedOrders = true) (hi : idx.all (fun k => decide (k < l.length)) = true)
    (hB : forksA l idx t = true) (hS : S w.drew)
    (h : wpQuiet P l.toArray S (fun a' => treeL P l (Calm Q) S l.length t a' w.drew) (idx.filterMap (fun k => l[k]?)) a) : (Code.region id l.toArray true).wp P Q a w := by
  refine wp_mono ?_ calm_imp
  refine wp_region_any hm ?_
  have := fork_anyA (Q := Q) idx t S (pre_some hi) hB hS h
  simpa using this

theorem stepL_at {l : List Oper} {brk k : Nat} {K : Act → World → Prop} {o : Oper} {a : Act} {w : World} (h0 : l[k]? = some o)
    (h : ∀ (K' : Act → World → Prop) (Q' : Exit → Act → World → Prop), (∀ a' w', (k < brk → S w') → K a' w' → K' a' w') → o.wp P a w K' Q') (hw : Region.wanted o (yielded l.toArray a.tmps) = true := by rfl) : stepL P l Q S brk k K a w := by
  unfold stepL
  rw [h0]
  exact ⟨hw, h _ _ fun _ _ h1 h2 => ⟨h1, h2⟩⟩

theorem treeL_nil {l : List Oper} {brk : Nat} {a : Act} {w : World} (h : Q .normal a w) : treeL P l (Calm Q) S brk .nil a w := h

/-- A load whose value is known in every world of the class, in the lexical walk. -/
theorem wpQuiet_load {ops : Array Oper} {C : World → Prop} {Q : Act → Prop} {a : Act} {o : Oper} {rest : List Oper} (ty : TypeId) (x : Operand) (ho : o.op = .load ty x) (p v : Value) (hx : a.eval x = p)
    (hl : ∀ w, C w → (Instr.loadAt ty p).run P w = .ok v w) (h : wpQuiet P ops C Q rest (a.put o.dst v)) (hw : Region.wanted o (yielded ops a.tmps) = true := by rfl) : wpQuiet P ops C Q (o :: rest) a :=
  wpQuiet_step fun K hK => by
    rw [if_pos hw]
    refine ⟨v, fun w hC => ?_, hK _ h⟩
    unfold Oper.quietAt execOp
    simp only [ho, hx, Sem.run_bind, Sem.run_pure, Result.andThen_ok, hl w hC]
    exact ⟨rfl, rfl⟩

end

end Go.Proofs.Ytnbabdfcamdapaa
