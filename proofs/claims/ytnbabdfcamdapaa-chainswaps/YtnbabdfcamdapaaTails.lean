/-
  A law of my own: a region that draws its order: operations that only read and call nothing are taken first, in the order of the text; the others stand in a row, each waiting for those ahead of it. And such a region within a round of a range over a function.
-/
import Derived.BigQuiet
import Derived.OrdersHeld
import Derived.OrdersIn
import Derived.RangeFuncCalls
namespace Go.Proofs.Ytnbabdfcamdapaa
open Go

/-- It calls nothing, starts nothing, and yields a value. -/
def simpleOp : Op → Bool
  | .move _ | .assign _ | .load _ _ | .binOp _ _ _ _ _ | .unOp _ _ _ | .convert _ _ _ | .fieldAddr _ _ _ | .field _ _ _ | .indexAddr _ _ _ | .index _ _ _ | .extract _ _ | .slice _ _ _ _ _ | .lookup _ _ _ _ | .pick _ _ _ | .nilCheck _ | .build _ _ => true
  | _ => false

theorem run_value {s : Sem Value} {P : Program} {w w' : World} {n : Next} (h : (do pure (Next.value (← s)) : Sem Next).run P w = .ok n w') : ∃ u, n = .value u := by
  simp only [Sem.run_bind, Sem.run_pure] at h
  cases hs : s.run P w with
  | ok u w1 => rw [hs] at h; simp only [Result.andThen] at h; cases h; exact ⟨u, rfl⟩
  | halt x w1 => rw [hs] at h; simp only [Result.andThen] at h; cases h

theorem simple_value {ρ : Operand → Value} {o : Oper} {P : Program} {w w' : World} {n : Next} (hs : simpleOp o.op = true) (h : (execOp ρ o).run P w = .ok n w') : ∃ u, n = .value u := by
  unfold execOp at h
  cases ho : o.op <;> rw [ho] at hs <;> simp only [simpleOp, Bool.false_eq_true] at hs <;> rw [ho] at h <;> simp only at h
  case move x => cases h; exact ⟨_, rfl⟩
  case assign x => cases h; exact ⟨_, rfl⟩
  case pick c a b =>
    simp only [Sem.run_bind, Sem.run_pure] at h
    cases hs : (asBool (ρ c)).run P w with
    | ok u w1 => rw [hs] at h; simp only [Result.andThen] at h; cases h; exact ⟨_, rfl⟩
    | halt x w1 => rw [hs] at h; simp only [Result.andThen] at h; cases h
  case nilCheck x =>
    split at h
    case h_4 =>
      split at h
      · cases h
      · simp only [Sem.run_bind] at h
        cases h1 : (Sem.run P program w) with
        | halt x w1 => rw [h1] at h; simp only [Result.andThen] at h; cases h
        | ok v1 w1 =>
          rw [h1] at h; simp only [Result.andThen] at h
          split at h
          · rename_i h2
            split at h
            · cases h
            · cases h; exact ⟨_, rfl⟩
          · cases h
      · cases h; exact ⟨_, rfl⟩
    case h_5 => cases h; exact ⟨_, rfl⟩
    all_goals cases h
  all_goals exact run_value h

section
variable {P : Program} {ops : Array Oper} {Q : Exit → Act → World → Prop} {md : Region.Mode} {S : World → Prop}

/-- What a quiet step of such an operation says. -/
theorem yieldsIf_of_quiet {o : Oper} {a : Act} {v : Value} (hs : simpleOp o.op = true) (hw : Region.wanted o (yielded ops a.tmps) = true) (h : ∀ w, S w → o.quietAt P a S w v) : YieldsIf P ops S o v a := by
  refine .inl ⟨hw, fun w hS => ?_⟩
  have hq := h w hS
  unfold Oper.quietAt at hq
  cases hr : (execOp a.eval o).run P w with
  | ok n w' =>
    rw [hr] at hq
    obtain ⟨u, rfl⟩ := simple_value hs hr
    simp only [Oper.quietUpon] at hq
    obtain ⟨rfl, rfl⟩ := hq
    rfl
  | halt x w' => rw [hr] at hq; simp only [Oper.quietUpon] at hq

/-- Whatever order is picked from here on, and S holds behind each operation numbered below brk. -/
def anyB (P : Program) (md : Region.Mode) (ops : Array Oper) (Q : Exit → Act → World → Prop) (S : World → Prop) (brk : Nat) : Nat → Array Bool → Act → World → Prop
  | 0, listed, a, w => Region.ready md ops listed = [] ∧ Q .normal a w
  | fuel + 1, listed, a, w =>
    (Region.ready md ops listed = [] → Q .normal a w) ∧
    ∀ i ∈ Region.ready md ops listed, wpOp P ops Q i (fun a' w' => (i < brk → S w') ∧ anyB P md ops Q S brk fuel (listed.setIfInBounds i true) a' w') a w

theorem wpAny_of_anyB {brk : Nat} : ∀ (fuel : Nat) (listed : Array Bool) (a : Act) (w : World), anyB P md ops Q S brk fuel listed a w → wpAny P md ops Q fuel listed a w
  | 0, _, _, _, h => h
  | fuel + 1, _, _, _, h => ⟨h.1, fun i hi => wpOp_mono (fun a' w' h' => wpAny_of_anyB fuel _ a' w' h'.2) (h.2 i hi)⟩

theorem anyB_first {brk : Nat} {i : Nat} {oi : Oper} {v : Value} (hi : ops[i]? = some oi) (hsel : ∀ (j : Nat) (o : Oper) cs b, ops[j]? = some o → o.op ≠ .select cs b)
    (hQ : ∀ c a w, Q (.panic c) (a.put oi.dst v) w → Q (.panic c) a w)
    (hib : i < brk) (hbrk : ∀ (j : Nat) (oj : Oper), ops[j]? = some oj → ¬ j < brk → ∃ e ∈ oj.after, Region.binds md e = true ∧ e.on = i) :
    ∀ (fuel : Nat) (listed : Array Bool) (a : Act) (w : World), listed.size = ops.size →
      (∀ j oj, ops[j]? = some oj → j ≠ i → listed.getD j true = false → (∀ e ∈ oj.after, Region.binds md e = true → e.on ≠ i) → oi.apart ops oj = true) →
      i ∈ Region.ready md ops listed → YieldsIf P ops S oi v a → S w →
      anyB P md ops Q S brk fuel (listed.setIfInBounds i true) (a.put oi.dst v) w → anyB P md ops Q S brk (fuel + 1) listed a w := by
  intro fuel
  induction fuel with
  | zero =>
    intro listed a w hls _ hr hy hS H
    refine ⟨fun h => (by rw [h] at hr; cases hr), fun j hj => ?_⟩
    by_cases hji : j = i
    · subst hji; exact hy.wpOp hi hS ⟨fun _ => hS, H⟩
    · have := ready_mono hj hji
      rw [H.1] at this
      cases this
  | succ fuel ih =>
    intro listed a w hls hfree hr hy hS H
    refine ⟨fun h => (by rw [h] at hr; cases hr), fun j hj => ?_⟩
    by_cases hji : j = i
    · subst hji; exact hy.wpOp hi hS ⟨fun _ => hS, H⟩
    · have h1 := H.2 j (ready_mono hj hji)
      obtain ⟨hjun, oj, hoj, hall⟩ := mem_ready.1 hj
      have hiun : listed.getD i false = false := by
        have h0 := (mem_ready.1 hr).1
        rcases Nat.lt_or_ge i listed.size with h' | h'
        · simp [h'] at h0 ⊢; exact h0
        · simp [Array.getD_eq_getD_getElem?, Array.getElem?_eq_none h']
      have hjb : j < brk := by
        rcases Nat.lt_or_ge j brk with q | q
        · exact q
        · obtain ⟨e, he, hb, hon⟩ := hbrk j oj hoj (by omega)
          have := hall e he hb
          rw [hon, hiun] at this
          cases this
      have hnot : ∀ e ∈ oj.after, Region.binds md e = true → e.on ≠ i := fun e he hb heq => by
        have h1 := hall e he hb
        rw [heq, hiun] at h1
        cases h1
      have h2 := wpOp_putIf hoj (hfree j oj hoj hji hjun hnot) (fun cs b => hsel i oi cs b hi) (fun cs b => hsel j oj cs b hoj) hQ hy h1
      have hfree' : ∀ k ok, ops[k]? = some ok → k ≠ i → (listed.setIfInBounds j true).getD k true = false →
          (∀ e ∈ ok.after, Region.binds md e = true → e.on ≠ i) → oi.apart ops ok = true := fun k ok hk hki hun hno => by
        refine hfree k ok hk hki ?_ hno
        by_cases hjk : j = k
        · subst hjk; exact hjun
        · rw [getD_set_ne true hjk] at hun; exact hun
      refine wpOp_mono (fun a' w' h3 => ⟨h3.2.1, ih (listed.setIfInBounds j true) a' w' (by simp [hls]) hfree' (ready_mono hr (Ne.symm hji)) h3.1 (h3.2.1 hjb) ?_⟩) h2
      rw [Array.setIfInBounds_comm _ _ hji]
      exact h3.2.2

/-- The rest in a row. -/
def rowB (P : Program) (Q : Exit → Act → World → Prop) (S : World → Prop) (brk : Nat) : Nat → List Oper → Act → World → Prop
  | _, [], a, w => Q .normal a w
  | k, o :: rest, a, w => o.wp P a w (fun a' w' => (k < brk → S w') ∧ rowB P Q S brk (k + 1) rest a' w') Q

/-- The rest comes one by one. -/
def rowsB (md : Region.Mode) (ops : Array Oper) : Nat → Nat → Array Bool → Bool
  | 0, _, listed => (Region.ready md ops listed).isEmpty
  | n + 1, k, listed => (Region.ready md ops listed == [k]) && (match ops[k]? with | some o => o.guard.isNone | none => false) && rowsB md ops n (k + 1) (listed.setIfInBounds k true)

/-- So many operations may be taken first, each free; those behind them come one by one. -/
def tailB (md : Region.Mode) (ops : Array Oper) : Nat → Nat → Nat → Array Bool → Bool
  | 0, n, k, listed => rowsB md ops n k listed
  | m + 1, n, k, listed => (Region.ready md ops listed).contains k && Region.free md ops listed k && (match ops[k]? with | some o => simpleOp o.op | none => false) && tailB md ops m n (k + 1) (listed.setIfInBounds k true)

theorem anyB_row {brk : Nat} : ∀ (rest : List Oper) (k : Nat) (listed : Array Bool) (a : Act) (w : World), (∀ j, rest[j]? = ops[k + j]?) →
    rowsB md ops rest.length k listed = true → rowB P Q S brk k rest a w → anyB P md ops Q S brk rest.length listed a w
  | [], _, _, _, _, _, hB, h => ⟨by simpa [rowsB] using hB, h⟩
  | o :: rest, k, listed, a, w, hl, hB, h => by
    have h0 : ops[k]? = some o := by simpa using (hl 0).symm
    simp only [List.length_cons, rowsB, Bool.and_eq_true, h0] at hB
    obtain ⟨⟨hr, hg⟩, hB'⟩ := hB
    have hr' : Region.ready md ops listed = [k] := by simpa using hr
    refine ⟨fun q => (by rw [hr'] at q; cases q), fun i hi => ?_⟩
    rw [hr'] at hi
    obtain rfl : i = k := by simpa using hi
    unfold wpOp
    simp only [h0]
    have hwant : Region.wanted o (yielded ops a.tmps) = true := by
      have : o.guard = none := by simpa using hg
      simp [Region.wanted, this]
    simp only [hwant, if_true]
    exact .inl (Oper.wp_mono (fun a' w' hq => ⟨hq.1, anyB_row rest (i + 1) _ a' w' (fun j => by have := hl (j + 1); simpa [Nat.add_assoc, Nat.add_comm 1 j] using this) hB' hq.2⟩) h)

theorem anyB_still {brk : Nat} {K : Act → Prop} (hs : Region.noSelect ops = true) (hQ : ∀ c a a' w, Q (.panic c) a w → Q (.panic c) a' w)
    (rest : List Oper) :
    ∀ (pre : List Oper) (k : Nat) (listed : Array Bool) (a : Act) (w : World), (∀ j, (pre ++ rest)[j]? = ops[k + j]?) → listed.size = ops.size → k + pre.length ≤ brk →
      (∀ i, i < brk → ∀ (j : Nat) (oj : Oper), ops[j]? = some oj → ¬ j < brk → ∃ e ∈ oj.after, Region.binds md e = true ∧ e.on = i) →
      tailB md ops pre.length rest.length k listed = true → S w → wpQuiet P ops S K pre a → (∀ a', K a' → rowB P Q S brk (k + pre.length) rest a' w) →
      anyB P md ops Q S brk (pre ++ rest).length listed a w
  | [], k, listed, a, w, hl, _, _, _, hB, _, h, hK => anyB_row rest k listed a w hl hB (hK a h)
  | o :: pre, k, listed, a, w, hl, hls, hbk, hbrk, hB, hS, h, hK => by
    have h0 : ops[k]? = some o := by simpa using (hl 0).symm
    simp only [List.length_cons, tailB, Bool.and_eq_true, h0] at hB
    obtain ⟨⟨⟨hr, hf⟩, hso⟩, hB'⟩ := hB
    simp only [List.length_cons] at hbk hK
    have hy : ∃ v, YieldsIf P ops S o v a ∧ wpQuiet P ops S K pre (a.put o.dst v) := by
      unfold wpQuiet at h
      by_cases hw : Region.wanted o (yielded ops a.tmps) = true
      · rw [if_pos hw] at h
        obtain ⟨v, hv, hn⟩ := h
        exact ⟨v, yieldsIf_of_quiet hso hw hv, hn⟩
      · rw [if_neg hw] at h
        exact ⟨undef, .inr ⟨by simpa using hw, rfl⟩, h⟩
    obtain ⟨v, hy, hn⟩ := hy
    refine anyB_first h0 (Region.noSelect_spec hs) (fun c a' w' q => hQ c _ _ w' q) (by omega) (hbrk k (by omega)) _ listed a w hls (Region.free_spec h0 hf) (by simpa using hr) hy hS ?_
    exact anyB_still hs hQ rest pre (k + 1) _ _ w (fun j => by have := hl (j + 1); simpa [Nat.add_assoc, Nat.add_comm 1 j] using this) (by simp [hls]) (by omega) hbrk hB' hS hn (fun a' ha => by have := hK a' ha; rwa [show k + (pre.length + 1) = k + 1 + pre.length from by omega] at this)

/-- The last operation alone waits for all others; of the rest so many are taken first. -/
def tailsB (l : List Oper) (m : Nat) : Bool :=
  decide (m < l.length) && Region.noSelect l.toArray && tailB .any l.toArray m (l.length - m) 0 (Array.replicate l.length false) &&
    (match l.getLast? with | some o => (List.range (l.length - 1)).all fun j => o.after.any fun e => Region.binds .any e && e.on == j | none => false)

/-- A run that does not panic. -/
def Calm (Q : Exit → Act → World → Prop) : Exit → Act → World → Prop
  | .panic _, _, _ => False
  | e, a, w => Q e a w

theorem tail_any {l : List Oper} (m : Nat) {a : Act} {w : World} (S : World → Prop) (hB : tailsB l m = true) (hS : S w)
    (h : wpQuiet P l.toArray S (fun a' => rowB P (Calm Q) S (l.length - 1) m (l.drop m) a' w) (l.take m) a) : wpAny P .any l.toArray (Calm Q) l.length (Array.replicate l.length false) a w := by
  unfold tailsB at hB
  simp only [Bool.and_eq_true, decide_eq_true_eq] at hB
  obtain ⟨⟨⟨hm, hs⟩, hT⟩, hL⟩ := hB
  have hlen : (l.take m).length = m := by simp; omega
  have hlen2 : (l.drop m).length = l.length - m := by simp
  have key := anyB_still (P := P) (ops := l.toArray) (Q := Calm Q) (md := .any) (S := S) (brk := l.length - 1) (K := fun a' => rowB P (Calm Q) S (l.length - 1) m (l.drop m) a' w) hs (fun c a a' w q => q.elim) (l.drop m) (l.take m) 0 (Array.replicate l.length false) a w
    (fun j => by simp) (by simp) (by rw [hlen]; omega)
    (fun i hi j oj hj hjb => by
      have hjl : j < l.length := by
        simp only [List.getElem?_toArray] at hj
        exact (List.getElem?_eq_some_iff.1 hj).1
      obtain rfl : j = l.length - 1 := by omega
      have hlast : l.getLast? = some oj := by rw [List.getLast?_eq_getElem?]; simpa using hj
      rw [hlast] at hL
      simp only [List.all_eq_true, List.mem_range] at hL
      have := hL i hi
      rw [Array.any_eq_true'] at this
      obtain ⟨e, he, h5⟩ := this
      simp only [Bool.and_eq_true, beq_iff_eq] at h5
      exact ⟨e, he, h5.1, h5.2⟩)
    (by rw [hlen, hlen2]; exact hT) hS h (fun a' ha => by rw [hlen, Nat.zero_add]; exact ha)
  have := wpAny_of_anyB _ _ _ _ key
  rwa [List.take_append_drop] at this

theorem calm_imp (e : Exit) (a : Act) (w : World) (h : Calm Q e a w) : Q e a w := by cases e <;> first | exact h | exact h.elim

/-- THE LAW. -/
theorem wp_region_tail {l : List Oper} (m : Nat) {id : Nat} {a : Act} {w : World} (S : World → Prop) (hm : P.follows .mixedOrders = true) (hB : tailsB l m = true) (hS : S w.drew)
    (h : wpQuiet P l.toArray S (fun a' => rowB P (Calm Q) S (l.length - 1) m (l.drop m) a' w.drew) (l.take m) a) : (Code.region id l.toArray true).wp P Q a w := by
  refine wp_mono ?_ calm_imp
  refine wp_region_any hm ?_
  have := tail_any (Q := Q) m S hB hS h
  simpa using this

/-! ### within a round -/

/-- It defers nothing, and is no range over a function's mark. -/
def plainB (ops : Array Oper) : Bool := ops.all fun o => match o.op with | .defer _ => false | _ => true

theorem opIn_of_wp {o : Oper} {l n : Nat} {a : Act} {w : World} {K : Act → World → Prop} (hd : ∀ c, o.op ≠ .defer c) (h : o.wp P a w K Q) : o.wpIn (Fence.wide.inRound l) n P a w K Q := by
  refine ⟨fun _ _ => trivial, ?_⟩
  have he : o.semAt (Fence.wide.inRound l).round a.eval = execOp a.eval o := Oper.semAt_eq _ _ _ hd
  rw [he]
  unfold Oper.wp at h
  generalize (execOp a.eval o).run P w = r at *
  cases r with
  | ok x w' =>
    cases x <;> simp only [Oper.upon] at h <;> simp only [Oper.uponIn]
    case value u => exact h
    case skip => exact h
    case defer d => exact h
    case enter f args => exact ⟨fun q => (by cases q), CallsIn.inRound l (callsIn_wide.2 h)⟩
    case row r args =>
      refine ⟨fun q => (by cases q), fun c cs _ => ?_⟩
      obtain ⟨v, w'', hR, hst⟩ := h c cs
      exact ⟨v, w'', hR, stepsIn_wide.2 hst⟩
  | halt x w' =>
    cases x <;> simp only [Oper.upon] at h <;> simp only [Oper.uponIn]
    case panic v => exact h

theorem anyIn_of_any {l n : Nat} (hp : plainB ops = true) (hlo : ¬ LetsOut Q) : ∀ (fuel : Nat) (listed : Array Bool) (a : Act) (w : World), wpAny P md ops Q fuel listed a w → wpAnyIn (Fence.wide.inRound l) n P md ops Q fuel listed a w
  | 0, _, _, _, h => h
  | fuel + 1, listed, a, w, h => ⟨h.1, fun i hi => by
      have h2 := h.2 i hi
      unfold wpOp at h2
      unfold wpOpIn
      cases ho : ops[i]? with
      | none => simp only [ho] at h2 ⊢; exact anyIn_of_any hp hlo fuel _ a w h2
      | some o =>
        simp only [ho] at h2 ⊢
        by_cases hw : Region.wanted o (yielded ops a.tmps) = true
        · simp only [hw, if_true] at h2 ⊢
          rcases h2 with h2 | h2
          · refine opIn_of_wp (fun c q => ?_) (Oper.wp_mono (fun a' w' q => anyIn_of_any hp hlo fuel _ a' w' q) h2)
            unfold plainB at hp
            rw [Array.all_eq_true'] at hp
            have := hp o (Array.mem_of_getElem? ho)
            rw [q] at this
            cases this
          · exact absurd h2.2 hlo
        · simp only [hw] at h2 ⊢
          exact ⟨fun _ _ => trivial, anyIn_of_any hp hlo fuel _ _ w h2⟩⟩

/-- THE LAW WITHIN A ROUND. -/
theorem wpIn_region_tail {l : List Oper} (m : Nat) {id r n : Nat} {a : Act} {w : World} (S : World → Prop) (hm : P.follows .mixedOrders = true) (hB : tailsB l m = true) (hp : plainB l.toArray = true) (hlo : ∀ a w, ¬ Q .outgrown a w) (hS : S w.drew)
    (h : wpQuiet P l.toArray S (fun a' => rowB P (Calm Q) S (l.length - 1) m (l.drop m) a' w.drew) (l.take m) a) : (Code.region id l.toArray true).wpIn (Fence.wide.inRound r) n P Q a w := by
  refine wpIn_mono ?_ calm_imp
  refine wpIn_region_any hm ?_
  have := anyIn_of_any (Q := Calm Q) (l := r) (n := n) hp (fun ⟨a, w, q⟩ => hlo a w q) _ _ _ _ (tail_any (Q := Q) m S hB hS h)
  simpa using this

end

/-! ### the same, whichever operations are picked to be taken first -/

section
variable {P : Program} {ops : Array Oper} {Q : Exit → Act → World → Prop} {md : Region.Mode} {S : World → Prop}

/-- The rest in a row, each with its number. -/
def rowL (P : Program) (Q : Exit → Act → World → Prop) (S : World → Prop) (brk : Nat) : List (Nat × Oper) → Act → World → Prop
  | [], a, w => Q .normal a w
  | x :: rest, a, w => x.2.wp P a w (fun a' w' => (x.1 < brk → S w') ∧ rowL P Q S brk rest a' w') Q

def restL (md : Region.Mode) (ops : Array Oper) : List Nat → Array Bool → Bool
  | [], listed => (Region.ready md ops listed).isEmpty
  | k :: rest, listed => (Region.ready md ops listed == [k]) && (match ops[k]? with | some o => o.guard.isNone | none => false) && restL md ops rest (listed.setIfInBounds k true)

def pickL (md : Region.Mode) (ops : Array Oper) (brk : Nat) (rest : List Nat) : List Nat → Array Bool → Bool
  | [], listed => restL md ops rest listed
  | k :: pre, listed => decide (k < brk) && (Region.ready md ops listed).contains k && Region.free md ops listed k && (match ops[k]? with | some o => simpleOp o.op | none => false) && pickL md ops brk rest pre (listed.setIfInBounds k true)

theorem anyB_restL {brk : Nat} : ∀ (idx : List Nat) (rest : List (Nat × Oper)) (listed : Array Bool) (a : Act) (w : World), idx.map (fun k => ops[k]?.map (fun o => (k, o))) = rest.map some →
    restL md ops idx listed = true → rowL P Q S brk rest a w → anyB P md ops Q S brk rest.length listed a w
  | [], [], _, _, _, _, hB, h => ⟨by simpa [restL] using hB, h⟩
  | [], _ :: _, _, _, _, he, _, _ => by simp at he
  | _ :: _, [], _, _, _, he, _, _ => by simp at he
  | k :: idx, (k', o) :: rest, listed, a, w, he, hB, h => by
    simp only [List.map_cons, List.cons.injEq] at he
    obtain ⟨he1, he2⟩ := he
    cases h0 : ops[k]? with
    | none => rw [h0] at he1; cases he1
    | some o' =>
      rw [h0] at he1
      simp only [Option.map_some, Option.some.injEq, Prod.mk.injEq] at he1
      obtain ⟨rfl, rfl⟩ := he1
      simp only [restL, Bool.and_eq_true, h0] at hB
      obtain ⟨⟨hr, hg⟩, hB'⟩ := hB
      have hr' : Region.ready md ops listed = [k] := by simpa using hr
      refine ⟨fun q => (by rw [hr'] at q; cases q), fun i hi => ?_⟩
      rw [hr'] at hi
      obtain rfl : i = k := by simpa using hi
      unfold wpOp
      simp only [h0]
      have hwant : Region.wanted o' (yielded ops a.tmps) = true := by
        have : o'.guard = none := by simpa using hg
        simp [Region.wanted, this]
      simp only [hwant, if_true]
      exact .inl (Oper.wp_mono (fun a' w' hq => ⟨hq.1, anyB_restL idx rest _ a' w' he2 hB' hq.2⟩) h)

theorem anyB_pickL {brk : Nat} {K : Act → Prop} (hs : Region.noSelect ops = true) (hQ : ∀ c a a' w, Q (.panic c) a w → Q (.panic c) a' w)
    (ridx : List Nat) (rest : List (Nat × Oper)) (hre : ridx.map (fun k => ops[k]?.map (fun o => (k, o))) = rest.map some)
    (hbrk : ∀ i, i < brk → ∀ (j : Nat) (oj : Oper), ops[j]? = some oj → ¬ j < brk → ∃ e ∈ oj.after, Region.binds md e = true ∧ e.on = i) :
    ∀ (idx : List Nat) (pre : List Oper) (listed : Array Bool) (a : Act) (w : World), idx.map (fun k => ops[k]?) = pre.map some → listed.size = ops.size →
      pickL md ops brk ridx idx listed = true → S w → wpQuiet P ops S K pre a → (∀ a', K a' → rowL P Q S brk rest a' w) →
      anyB P md ops Q S brk (pre.length + rest.length) listed a w
  | [], [], listed, a, w, _, _, hB, _, h, hK => by
    rw [List.length_nil, Nat.zero_add]
    exact anyB_restL ridx rest listed a w hre hB (hK a h)
  | [], _ :: _, _, _, _, he, _, _, _, _, _ => by simp at he
  | _ :: _, [], _, _, _, he, _, _, _, _, _ => by simp at he
  | k :: idx, o :: pre, listed, a, w, he, hls, hB, hS, h, hK => by
    simp only [List.map_cons, List.cons.injEq] at he
    obtain ⟨h0, he2⟩ := he
    simp only [pickL, Bool.and_eq_true, h0, decide_eq_true_eq] at hB
    obtain ⟨⟨⟨⟨hkb, hr⟩, hf⟩, hso⟩, hB'⟩ := hB
    have hy : ∃ v, YieldsIf P ops S o v a ∧ wpQuiet P ops S K pre (a.put o.dst v) := by
      unfold wpQuiet at h
      by_cases hw : Region.wanted o (yielded ops a.tmps) = true
      · rw [if_pos hw] at h
        obtain ⟨v, hv, hn⟩ := h
        exact ⟨v, yieldsIf_of_quiet hso hw hv, hn⟩
      · rw [if_neg hw] at h
        exact ⟨undef, .inr ⟨by simpa using hw, rfl⟩, h⟩
    obtain ⟨v, hy, hn⟩ := hy
    rw [List.length_cons, show pre.length + 1 + rest.length = (pre.length + rest.length) + 1 from by omega]
    refine anyB_first h0 (Region.noSelect_spec hs) (fun c a' w' q => hQ c _ _ w' q) hkb (hbrk k hkb) _ listed a w hls (Region.free_spec h0 hf) (by simpa using hr) hy hS ?_
    exact anyB_pickL hs hQ ridx rest hre hbrk idx pre _ _ w he2 (by simp [hls]) hB' hS hn hK

/-- The last operation alone waits for all others; these are taken first, those come in a row. -/
def picksB (l : List Oper) (idx ridx : List Nat) : Bool :=
  Region.noSelect l.toArray && pickL .any l.toArray (l.length - 1) ridx idx (Array.replicate l.length false) && decide (idx.length + ridx.length = l.length) &&
    (match l.getLast? with | some o => (List.range (l.length - 1)).all fun j => o.after.any fun e => Region.binds .any e && e.on == j | none => false)

theorem pick_any {l : List Oper} (idx ridx : List Nat) {pre : List Oper} {rest : List (Nat × Oper)} {a : Act} {w : World} (S : World → Prop) (hpre : idx.map (fun k => l.toArray[k]?) = pre.map some) (hre : ridx.map (fun k => l.toArray[k]?.map (fun o => (k, o))) = rest.map some)
    (hB : picksB l idx ridx = true) (hS : S w)
    (h : wpQuiet P l.toArray S (fun a' => rowL P (Calm Q) S (l.length - 1) rest a' w) pre a) : wpAny P .any l.toArray (Calm Q) l.length (Array.replicate l.length false) a w := by
  unfold picksB at hB
  simp only [Bool.and_eq_true, decide_eq_true_eq] at hB
  obtain ⟨⟨⟨hs, hT⟩, hlen⟩, hL⟩ := hB
  have e1 : pre.length = idx.length := by have := congrArg List.length hpre; simpa using this.symm
  have e2 : rest.length = ridx.length := by have := congrArg List.length hre; simpa using this.symm
  have key := anyB_pickL (P := P) (ops := l.toArray) (Q := Calm Q) (md := .any) (S := S) (brk := l.length - 1) (K := fun a' => rowL P (Calm Q) S (l.length - 1) rest a' w) hs (fun c a a' w q => q.elim) ridx rest hre
    (fun i hi j oj hj hjb => by
      have hjl : j < l.length := by
        simp only [List.getElem?_toArray] at hj
        exact (List.getElem?_eq_some_iff.1 hj).1
      obtain rfl : j = l.length - 1 := by omega
      have hlast : l.getLast? = some oj := by rw [List.getLast?_eq_getElem?]; simpa using hj
      rw [hlast] at hL
      simp only [List.all_eq_true, List.mem_range] at hL
      have := hL i hi
      rw [Array.any_eq_true'] at this
      obtain ⟨e, he, h5⟩ := this
      simp only [Bool.and_eq_true, beq_iff_eq] at h5
      exact ⟨e, he, h5.1, h5.2⟩)
    idx pre (Array.replicate l.length false) a w hpre (by simp) hT hS h (fun a' ha => ha)
  have := wpAny_of_anyB _ _ _ _ key
  rwa [e1, e2, hlen] at this

theorem pre_some {l : List Oper} : ∀ {idx : List Nat}, idx.all (fun k => decide (k < l.length)) = true → idx.map (fun k => l.toArray[k]?) = (idx.filterMap (fun k => l[k]?)).map some
  | [], _ => rfl
  | k :: idx, h => by
    simp only [List.all_cons, Bool.and_eq_true, decide_eq_true_eq] at h
    rw [List.map_cons, pre_some h.2, List.filterMap_cons, List.getElem?_toArray, List.getElem?_eq_getElem h.1]
    rfl
theorem rest_some {l : List Oper} : ∀ {idx : List Nat}, idx.all (fun k => decide (k < l.length)) = true → idx.map (fun k => l.toArray[k]?.map (fun o => (k, o))) = (idx.filterMap (fun k => l[k]?.map (fun o => (k, o)))).map some
  | [], _ => rfl
  | k :: idx, h => by
    simp only [List.all_cons, Bool.and_eq_true, decide_eq_true_eq] at h
    rw [List.map_cons, rest_some h.2, List.filterMap_cons, List.getElem?_toArray, List.getElem?_eq_getElem h.1]
    rfl

/-- THE LAW. -/
theorem wp_region_pick {l : List Oper} (idx ridx : List Nat) {id : Nat} {a : Act} {w : World} (S : World → Prop) (hm : P.follows .mixedOrders = true) (hi : (idx ++ ridx).all (fun k => decide (k < l.length)) = true)
    (hB : picksB l idx ridx = true) (hS : S w.drew)
    (h : wpQuiet P l.toArray S (fun a' => rowL P (Calm Q) S (l.length - 1) (ridx.filterMap (fun k => l[k]?.map (fun o => (k, o)))) a' w.drew) (idx.filterMap (fun k => l[k]?)) a) : (Code.region id l.toArray true).wp P Q a w := by
  refine wp_mono ?_ calm_imp
  refine wp_region_any hm ?_
  rw [List.all_append, Bool.and_eq_true] at hi
  have := pick_any (Q := Q) idx ridx S (pre_some hi.1) (rest_some hi.2) hB hS h
  simpa using this

/-- THE LAW WITHIN A ROUND. -/
theorem wpIn_region_pick {l : List Oper} (idx ridx : List Nat) {id r n : Nat} {a : Act} {w : World} (S : World → Prop) (hm : P.follows .mixedOrders = true) (hi : (idx ++ ridx).all (fun k => decide (k < l.length)) = true)
    (hB : picksB l idx ridx = true) (hp : plainB l.toArray = true) (hlo : ∀ a w, ¬ Q .outgrown a w) (hS : S w.drew)
    (h : wpQuiet P l.toArray S (fun a' => rowL P (Calm Q) S (l.length - 1) (ridx.filterMap (fun k => l[k]?.map (fun o => (k, o)))) a' w.drew) (idx.filterMap (fun k => l[k]?)) a) : (Code.region id l.toArray true).wpIn (Fence.wide.inRound r) n P Q a w := by
  refine wpIn_mono ?_ calm_imp
  refine wpIn_region_any hm ?_
  rw [List.all_append, Bool.and_eq_true] at hi
  have := anyIn_of_any (Q := Calm Q) (l := r) (n := n) hp (fun ⟨a, w, q⟩ => hlo a w q) _ _ _ _ (pick_any (Q := Q) idx ridx S (pre_some hi.1) (rest_some hi.2) hB hS h)
  simpa using this

theorem rowL_step {brk k : Nat} {o : Oper} {rest : List (Nat × Oper)} {a : Act} {w : World}
    (h : ∀ (K : Act → World → Prop) (Q' : Exit → Act → World → Prop), (∀ a' w', (k < brk → S w') → rowL P Q S brk rest a' w' → K a' w') → o.wp P a w K Q') : rowL P Q S brk ((k, o) :: rest) a w :=
  h _ _ fun _ _ h1 h2 => ⟨h1, h2⟩
theorem rowL_nil {brk : Nat} {a : Act} {w : World} (h : Q .normal a w) : rowL P (Calm Q) S brk [] a w := h

end

theorem rowB_step {P : Program} {Q : Exit → Act → World → Prop} {S : World → Prop} {brk k : Nat} {o : Oper} {rest : List Oper} {a : Act} {w : World}
    (h : ∀ (K : Act → World → Prop) (Q' : Exit → Act → World → Prop), (∀ a' w', (k < brk → S w') → rowB P Q S brk (k + 1) rest a' w' → K a' w') → o.wp P a w K Q') : rowB P Q S brk k (o :: rest) a w :=
  h _ _ fun _ _ h1 h2 => ⟨h1, h2⟩

theorem rowB_nil {P : Program} {Q : Exit → Act → World → Prop} {S : World → Prop} {brk k : Nat} {a : Act} {w : World} (h : Q .normal a w) : rowB P (Calm Q) S brk k [] a w := h

/-- A world in which these cells hold these values. -/
structure Keep (L : List (Addr × Value)) where
  val : World
  cells : ∀ e ∈ L, val.cell? e.1 = some e.2

theorem Keep.some {L : List (Addr × Value)} (w : World) (h : ∀ e ∈ L, w.cell? e.1 = some e.2) : Nonempty (Keep L) := ⟨⟨w, h⟩⟩

end Go.Proofs.Ytnbabdfcamdapaa
