/-
  A region that draws its order, all of whose operations only read but the last one, which waits for all of them: one walk, in the order of the text, and then the last one.
-/
import Derived.BigQuiet
namespace Go.Proofs.YtbbgabdiikdjpaaDoor
open Go

/-- The operation as it stands, but that it does nothing. -/
def idle (o : Oper) : Oper := { o with op := .move (.const undef) }

/-- The list with its last operation idle. -/
def idleLast (l : List Oper) (o : Oper) : List Oper := l.dropLast ++ [idle o]

/-- The last one yields nothing, is not guarded, waits for all others; each waits for earlier ones alone; with the last one idle one walk serves every order. -/
def lastB (l : List Oper) (o : Oper) : Bool :=
  o.dst.isNone && o.guard.isNone && ((List.range (l.length - 1)).all fun j => o.after.any fun e => Region.binds .any e && e.on == j) &&
    ((List.range l.length).all fun i => match l[i]? with | some p => p.after.all fun e => decide (e.on < i) | none => true) && Region.lexB .any (idleLast l o).toArray

section
variable {P : Program} {l : List Oper} {o : Oper} {C : World → Prop} {K : Act → Prop} {Q : Exit → Act → World → Prop}

theorem last_split (ho : l.getLast? = some o) : l = l.dropLast ++ [o] := by
  obtain ⟨ys, rfl⟩ := List.getLast?_eq_some_iff.1 ho
  simp

theorem last_len (ho : l.getLast? = some o) : (l.dropLast).length = l.length - 1 ∧ 0 < l.length := by
  have h := congrArg List.length (last_split ho)
  simp at h
  exact ⟨by simp, by omega⟩

theorem idle_len (ho : l.getLast? = some o) : (idleLast l o).length = l.length := by
  have := last_len ho
  unfold idleLast
  rw [List.length_append, this.1, List.length_singleton]
  omega

theorem at_last (ho : l.getLast? = some o) : l[l.length - 1]? = some o := by
  rw [List.getLast?_eq_getElem?] at ho
  exact ho

theorem idle_at_last (ho : l.getLast? = some o) : (idleLast l o)[l.length - 1]? = some (idle o) := by
  have := last_len ho
  unfold idleLast
  rw [List.getElem?_append_right (by omega), this.1, Nat.sub_self]
  rfl

theorem idle_other (ho : l.getLast? = some o) {i : Nat} (hi : i ≠ l.length - 1) : (idleLast l o)[i]? = l[i]? := by
  have h := last_len ho
  conv => rhs; rw [last_split ho]
  unfold idleLast
  rcases Nat.lt_or_ge i (l.length - 1) with k | k
  · rw [List.getElem?_append_left (by omega), List.getElem?_append_left (by omega)]
  · rw [List.getElem?_eq_none (by simp; omega), List.getElem?_eq_none (by simp; omega)]

theorem idle_yielded (ho : l.getLast? = some o) : yielded (idleLast l o).toArray = yielded l.toArray := by
  funext tmps j
  unfold yielded
  by_cases hj : j = l.length - 1
  · subst hj
    simp only [List.getElem?_toArray, idle_at_last ho, at_last ho]
    rfl
  · simp only [List.getElem?_toArray, idle_other ho hj]

theorem idle_ready (ho : l.getLast? = some o) {listed : Array Bool} {j : Nat} : j ∈ Region.ready .any (idleLast l o).toArray listed ↔ j ∈ Region.ready .any l.toArray listed := by
  rw [mem_ready, mem_ready]
  by_cases hj : j = l.length - 1
  · subst hj
    simp only [List.getElem?_toArray, idle_at_last ho, at_last ho, Option.some.injEq, exists_eq_left']
    exact Iff.rfl
  · simp only [List.getElem?_toArray, idle_other ho hj]

theorem some_ready (hb : ∀ (i : Nat) (p : Oper), l[i]? = some p → ∀ e ∈ p.after, e.on < i) {listed : Array Bool} : ∀ k, k < l.length → listed.getD k true = false → ∃ j, j ∈ Region.ready .any l.toArray listed := by
  intro k
  induction k using Nat.strongRecOn with
  | _ k ih =>
    intro hk hl
    by_cases hr : k ∈ Region.ready .any l.toArray listed
    · exact ⟨k, hr⟩
    · rw [mem_ready] at hr
      have ho : l[k]? = some l[k] := List.getElem?_eq_getElem hk
      have : ¬ ∀ e ∈ l[k].after, Region.binds .any e = true → listed.getD e.on false = true := fun h => hr ⟨hl, l[k], by simp [ho], h⟩
      simp only [Classical.not_forall] at this
      obtain ⟨e, he, _, h2⟩ := this
      have hlt := hb k l[k] ho e he
      refine ih e.on hlt (by omega) ?_
      have hks : k < listed.size := by
        rcases Nat.lt_or_ge k listed.size with q | q
        · exact q
        · rw [Array.getD_eq_getD_getElem?, Array.getElem?_eq_none q] at hl; cases hl
      have hes : e.on < listed.size := by omega
      simp only [Array.getD_eq_getD_getElem?, Array.getElem?_eq_getElem hes, Option.getD_some] at h2 ⊢
      simpa using h2

theorem wpQuiet_yielded {ops ops' : Array Oper} (h : yielded ops' = yielded ops) : ∀ (L : List Oper) (a : Act), wpQuiet P ops C K L a → wpQuiet P ops' C K L a
  | [], _, q => q
  | x :: L, a, q => by
    unfold wpQuiet at q ⊢
    rw [h]
    by_cases hw : Region.wanted x (yielded ops a.tmps) = true
    · rw [if_pos hw] at q ⊢
      exact Oper.quiet_mono (fun a' q' => wpQuiet_yielded h L a' q') q
    · rw [if_neg hw] at q ⊢
      exact wpQuiet_yielded h L _ q

theorem idle_run (a : Act) (w : World) : (execOp a.eval (idle o)).run P w = .ok (.value (a.eval (.const undef))) w :=
  BigFrame.run_move (.const undef) rfl w

theorem wpQuiet_idle {ops : Array Oper} (hd : o.dst.isNone = true) : ∀ (L : List Oper) (a : Act), wpQuiet P ops C K L a → wpQuiet P ops C K (L ++ [idle o]) a
  | [], a, q => by
    have hp : ∀ v, a.put (idle o).dst v = a := fun v => by
      have : (idle o).dst = none := by simpa [idle] using hd
      rw [this]
      rfl
    have q' : K a := q
    unfold wpQuiet
    by_cases hw : Region.wanted (idle o) (yielded ops a.tmps) = true
    · rw [List.nil_append]
      simp only [hw, if_true]
      refine ⟨a.eval (.const undef), fun w _ => ?_, ?_⟩
      · unfold Oper.quietAt
        rw [idle_run]
        exact ⟨rfl, rfl⟩
      · rw [hp]; exact q'
    · rw [List.nil_append]
      simp only [hw]
      rw [hp]; exact q'
  | x :: L, a, q => by
    rw [List.cons_append]
    unfold wpQuiet at q ⊢
    by_cases hw : Region.wanted x (yielded ops a.tmps) = true
    · rw [if_pos hw] at q ⊢
      exact Oper.quiet_mono (fun a' q' => wpQuiet_idle hd L a' q') q
    · rw [if_neg hw] at q ⊢
      exact wpQuiet_idle hd L _ q

theorem any_last (ho : l.getLast? = some o) (hd : o.dst.isNone = true) (hg : o.guard.isNone = true) (ha : ∀ j, j < l.length - 1 → ∃ e ∈ o.after, Region.binds .any e = true ∧ e.on = j)
    (hb : ∀ (i : Nat) (p : Oper), l[i]? = some p → ∀ e ∈ p.after, e.on < i) (hQ : ∀ a w, C w → K a → o.wp P a w (fun a' w' => Q .normal a' w') Q) :
    ∀ (fuel : Nat) (listed : Array Bool) (a : Act) (w : World), C w → listed.size = l.length → listed.getD (l.length - 1) true = false →
      wpAnyQ P .any (idleLast l o).toArray C K fuel listed a → wpAny P .any l.toArray Q fuel listed a w := by
  have hlen := last_len ho
  have hdn : o.dst = none := by simpa using hd
  have hgn : o.guard = none := by simpa using hg
  intro fuel
  induction fuel with
  | zero =>
    intro listed a w _ hs hl h
    obtain ⟨j, hj⟩ := some_ready hb (l.length - 1) (by omega) hl
    rw [← idle_ready ho, h.1] at hj
    cases hj
  | succ fuel ih =>
    intro listed a w hC hs hl h
    refine ⟨fun h0 => ?_, fun i hi => ?_⟩
    · obtain ⟨j, hj⟩ := some_ready hb (l.length - 1) (by omega) hl
      rw [h0] at hj
      cases hj
    · have hq := h.2 i ((idle_ready ho).2 hi)
      by_cases hin : i = l.length - 1
      · subst hin
        have hall : ∀ j, j < l.length - 1 → listed.getD j false = true := fun j hj => by
          obtain ⟨_, p, hp, hp2⟩ := mem_ready.1 hi
          have : p = o := by
            have e := at_last ho
            simp only [List.getElem?_toArray] at hp
            rw [e] at hp
            exact (Option.some.inj hp).symm
          subst this
          obtain ⟨e, he, hbe, hon⟩ := ha j hj
          have := hp2 e he hbe
          rw [hon] at this
          exact this
        have hnone : ∀ j, j ∉ Region.ready .any l.toArray (listed.setIfInBounds (l.length - 1) true) := fun j hj => by
          obtain ⟨h1, p, hp, _⟩ := mem_ready.1 hj
          have hjl : j < l.length := by
            simp only [List.getElem?_toArray] at hp
            exact (List.getElem?_eq_some_iff.1 hp).1
          by_cases hjn : j = l.length - 1
          · subst hjn
            simp [Array.getD_eq_getD_getElem?, hs, hjl] at h1
          · have h2 := hall j (by omega)
            rw [getD_set_ne true (Ne.symm hjn)] at h1
            have hjs : j < listed.size := by omega
            simp only [Array.getD_eq_getD_getElem?, Array.getElem?_eq_getElem hjs, Option.getD_some] at h1 h2
            rw [h1] at h2
            cases h2
        have hr : Region.ready .any l.toArray (listed.setIfInBounds (l.length - 1) true) = [] := List.eq_nil_iff_forall_not_mem.2 hnone
        have hr' : Region.ready .any (idleLast l o).toArray (listed.setIfInBounds (l.length - 1) true) = [] := List.eq_nil_iff_forall_not_mem.2 fun j hj => hnone j ((idle_ready ho).1 hj)
        have hK : K a := by
          unfold qOp at hq
          simp only [List.getElem?_toArray, idle_at_last ho] at hq
          have hwant : Region.wanted (idle o) (yielded (idleLast l o).toArray a.tmps) = true := by
            have : (idle o).guard = none := hgn
            simp [Region.wanted, this]
          simp only [hwant, if_true] at hq
          obtain ⟨v, _, hk⟩ := hq
          have hp : a.put (idle o).dst v = a := by
            have : (idle o).dst = none := hdn
            rw [this]; rfl
          rw [hp] at hk
          cases fuel with
          | zero => exact hk.2
          | succ f => exact hk.1 hr'
        unfold wpOp
        simp only [List.getElem?_toArray, at_last ho]
        have hwant : Region.wanted o (yielded l.toArray a.tmps) = true := by simp [Region.wanted, hgn]
        simp only [hwant, if_true]
        exact .inl (Oper.wp_mono (fun a' w' hq' => wpAny_done hr hq' fuel) (hQ a w hC hK))
      · have h1 := wpOp_of_qOp (Q' := Q) (K' := wpAny P .any l.toArray Q fuel (listed.setIfInBounds i true)) hC
          (fun a' w' hw' hk => ih (listed.setIfInBounds i true) a' w' hw' (by simp [hs]) (by rw [getD_set_ne true hin]; exact hl) hk) hq
        unfold wpOp at h1 ⊢
        simp only [List.getElem?_toArray, idle_other ho hin, idle_yielded ho] at h1 ⊢
        exact h1

/-- Whatever order is drawn: the walk in the order of the text up to the last operation, and then that one. -/
theorem last_any {a : Act} {w : World} (o : Oper) (ho : l.getLast? = some o) (hB : lastB l o = true)
    (h : wpQuiet P l.toArray (fun w' => ∃ n, w' = w.drewN n) (fun a' => ∀ w', (∃ n, w' = w.drewN n) → o.wp P a' w' (fun a'' w'' => Q .normal a'' w'') Q) l.dropLast a) :
    wpAny P .any l.toArray Q l.length (Array.replicate l.length false) a w.drew := by
  unfold lastB at hB
  simp only [Bool.and_eq_true, List.all_eq_true, List.mem_range] at hB
  obtain ⟨⟨⟨⟨hd, hg⟩, ha⟩, hb⟩, hX⟩ := hB
  have hlen := last_len ho
  simp only [Region.lexB, Bool.and_eq_true] at hX
  have hy := idle_yielded ho
  have h1 := wpQuiet_yielded hy _ _ h
  have h2 := wpQuiet_idle hd _ _ h1
  have h3 := wpAnyQ_lex (md := .any) hX.1 (idleLast l o) 0 (Array.replicate (idleLast l o).toArray.size false) a (by simp) (by simpa using hX.2) h2
  have hst : (Array.replicate (idleLast l o).toArray.size false).getD (l.length - 1) true = false := by
    have q : l.length - 1 < l.length := by omega
    simp [idle_len ho, q]
  have h4 := any_last (Q := Q) (C := fun w' => ∃ n, w' = w.drewN n) ho hd hg
    (fun j hj => by
      have := ha j hj
      rw [Array.any_eq_true'] at this
      obtain ⟨e, he, h5⟩ := this
      simp only [Bool.and_eq_true, beq_iff_eq] at h5
      exact ⟨e, he, h5.1, h5.2⟩)
    (fun i p hp e he => by
      have hi : i < l.length := (List.getElem?_eq_some_iff.1 hp).1
      have := hb i hi
      rw [hp] at this
      simp only [Array.all_eq_true_iff_forall_mem] at this
      simpa using this e he)
    (fun a' w' hC hk => hk w' hC) (idleLast l o).length _ a w.drew ⟨1, rfl⟩ (by simp [idle_len ho]) hst h3
  simpa [idle_len ho] using h4

/-- THE LAW: the walk in the order of the text up to the last operation, and then that one, in whatever world has come of draws alone. -/
theorem wp_region_last {id : Nat} {a : Act} {w : World} (o : Oper) (hm : P.follows .mixedOrders = true) (ho : l.getLast? = some o) (hB : lastB l o = true)
    (h : wpQuiet P l.toArray (fun w' => ∃ n, w' = w.drewN n) (fun a' => ∀ w', (∃ n, w' = w.drewN n) → o.wp P a' w' (fun a'' w'' => Q .normal a'' w'') Q) l.dropLast a) :
    (Code.region id l.toArray true).wp P Q a w := by
  refine wp_region_any hm ?_
  have := last_any (Q := Q) o ho hB h
  simpa using this

end
end Go.Proofs.YtbbgabdiikdjpaaDoor
