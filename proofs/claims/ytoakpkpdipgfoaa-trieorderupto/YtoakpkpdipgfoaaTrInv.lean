/-
  Plain: a trie and the list of what was put: each entry is the last one put for its bits; the longest beginning of the list is what is told.
-/
import Derived.Test.YtoakpkpdipgfoaaTrRef
import Derived.Test.YtoakpkpdipgfoaaTrPuts
namespace Go.Proofs.Ytoakpkpdipgfoaa
open Go.RowKit Go.Deep

structure Inv (T : Tn) (P : List Bg) : Prop where
  right : ∀ b ∈ P, RightB b
  ofT : ∀ e ∈ T.ents, ∃ i, ∃ h : i < P.length, P[i].n = (e.2.1 : Int) ∧ P[i].val = e.2.2 ∧ Al P[i].e.A e.1 e.2.1 ∧ ∀ j (hj : j < P.length), i < j → ¬ (P[j].n = P[i].n ∧ Al P[j].e.A P[i].e.A e.2.1)
  ofP : ∀ i (h : i < P.length), ∃ e ∈ T.ents, (e.2.1 : Int) = P[i].n ∧ Al e.1 P[i].e.A e.2.1
  num : T.ents.length = kN P P.length

theorem Inv.nil : Inv .nil [] := ⟨fun b hb => (by cases hb), fun e he => (by simp [Tn.ents] at he), fun i h => (by simp at h), rfl⟩

theorem sameB_front {P : List Bg} {b : Bg} {j i : Nat} (hj : j < P.length) (hi : i < P.length) : sameB (P ++ [b]) j i = sameB P j i := by
  unfold sameB
  rw [List.getD_eq_getElem?_getD, List.getD_eq_getElem?_getD, List.getD_eq_getElem?_getD, List.getD_eq_getElem?_getD, List.getElem?_append_left hj, List.getElem?_append_left hi]

theorem freshUp_front {P : List Bg} {b : Bg} {i : Nat} (hi : i < P.length) (t : Nat) (ht : t ≤ i) : freshUp (P ++ [b]) i t = freshUp P i t := by
  induction t with
  | zero => rfl
  | succ t ih => rw [freshUp_succ, freshUp_succ, ih (by omega), sameB_front (by omega) hi]

theorem kN_front {P : List Bg} {b : Bg} (k : Nat) (hk : k ≤ P.length) : kN (P ++ [b]) k = kN P k := by
  induction k with
  | zero => rfl
  | succ k ih => rw [kN_succ, kN_succ, ih (by omega), freshUp_front (by omega) k (Nat.le_refl _)]

theorem fresh_last (P : List Bg) (b : Bg) : freshUp (P ++ [b]) P.length P.length = true ↔ ¬ ∃ j, ∃ h : j < P.length, P[j].n = b.n ∧ Al P[j].e.A b.e.A b.n.toNat := by
  unfold freshUp
  rw [Bool.not_eq_true', ← Bool.not_eq_true, List.any_eq_true]
  constructor
  · rintro h ⟨j, hj, q⟩
    refine h ⟨j, List.mem_range.2 hj, ?_⟩
    unfold sameB
    rw [decide_eq_true_iff, List.getD_eq_getElem?_getD, List.getD_eq_getElem?_getD, List.getElem?_append_left hj, List.getElem?_append_right (Nat.le_refl _), List.getElem?_eq_getElem hj]
    simpa using q
  · rintro h ⟨j, hj, q⟩
    have hj' := List.mem_range.1 hj
    refine h ⟨j, hj', ?_⟩
    unfold sameB at q
    rw [decide_eq_true_iff, List.getD_eq_getElem?_getD, List.getD_eq_getElem?_getD, List.getElem?_append_left hj', List.getElem?_append_right (Nat.le_refl _), List.getElem?_eq_getElem hj'] at q
    simpa using q

theorem Inv.put {T T' : Tn} {P : List Bg} {b : Bg} {N : Nat} (h : Inv T P) (hr : RightB b) (hn : b.n = (N : Int)) (u : Upd T T' b.e.A N b.val) : Inv T' (P ++ [b]) := by
  obtain ⟨a, ha, he⟩ := u.ents
  have hnN : b.n.toNat = N := by omega
  have hlen : (P ++ [b]).length = P.length + 1 := by simp
  have key : (∃ j, ∃ h : j < P.length, P[j].n = b.n ∧ Al P[j].e.A b.e.A b.n.toNat) ↔ ∃ e ∈ T.ents, e.2.1 = N ∧ Al e.1 b.e.A N := by
    rw [hnN]
    constructor
    · rintro ⟨j, hj, q1, q2⟩
      obtain ⟨e, k1, k2, k3⟩ := h.ofP j hj
      have : e.2.1 = N := by omega
      exact ⟨e, k1, this, fun i hi => by rw [k3 i (by omega), q2 i hi]⟩
    · rintro ⟨e, k1, k2, k3⟩
      obtain ⟨i, hi, q1, q2, q3, _⟩ := h.ofT e k1
      exact ⟨i, hi, by omega, fun z hz => by rw [q3 z (by omega), k3 z hz]⟩
  refine ⟨fun x hx => ?_, fun e hx => ?_, fun i hi => ?_, ?_⟩
  · rcases List.mem_append.1 hx with q | q
    · exact h.right x q
    · have : x = b := by simpa using q
      rw [this]; exact hr
  · rcases (he e).1 hx with rfl | ⟨k1, k2⟩
    · refine ⟨P.length, by rw [hlen]; omega, ?_⟩
      simp only [List.getElem_append_right (Nat.le_refl _), Nat.sub_self, List.getElem_cons_zero]
      refine ⟨hn, trivial, ha.symm, fun j hj hlt => ?_⟩
      rw [hlen] at hj; omega
    · obtain ⟨i, hi, q1, q2, q3, q4⟩ := h.ofT e k1
      refine ⟨i, by rw [hlen]; omega, ?_⟩
      simp only [List.getElem_append_left hi]
      refine ⟨q1, q2, q3, fun j hj hlt => ?_⟩
      rw [hlen] at hj
      by_cases cj : j < P.length
      · simp only [List.getElem_append_left cj]
        exact q4 j cj hlt
      · obtain rfl : j = P.length := by omega
        simp only [List.getElem_append_right (Nat.le_refl _), Nat.sub_self, List.getElem_cons_zero]
        rintro ⟨z1, z2⟩
        exact k2 ⟨by omega, fun i' hi' => by rw [← q3 i' (by omega), ← z2 i' (by omega)]⟩
  · rw [hlen] at hi
    by_cases ci : i < P.length
    · simp only [List.getElem_append_left ci]
      obtain ⟨e, k1, k2, k3⟩ := h.ofP i ci
      by_cases ck : e.2.1 = N ∧ Al e.1 b.e.A N
      · refine ⟨(a, N, b.val), (he _).2 (Or.inl rfl), by simp only; omega, fun z hz => ?_⟩
        simp only at hz ⊢
        rw [ha z hz, ← ck.2 z hz, k3 z (by omega)]
      · exact ⟨e, (he _).2 (Or.inr ⟨k1, ck⟩), k2, k3⟩
    · obtain rfl : i = P.length := by omega
      simp only [List.getElem_append_right (Nat.le_refl _), Nat.sub_self, List.getElem_cons_zero]
      exact ⟨(a, N, b.val), (he _).2 (Or.inl rfl), by simp only; omega, ha⟩
  · rw [hlen, kN_succ, kN_front _ (Nat.le_refl _), ← h.num]
    have hf := fresh_last P b
    by_cases ck : ∃ e ∈ T.ents, e.2.1 = N ∧ Al e.1 b.e.A N
    · rw [u.old ck]
      have : freshUp (P ++ [b]) P.length P.length = false := by
        cases q : freshUp (P ++ [b]) P.length P.length with
        | false => rfl
        | true => exact absurd (key.2 ck) (hf.1 q)
      rw [this]; simp
    · rw [u.fresh ck, hf.2 (fun q => ck (key.1 q))]; simp

/-- One that an address begins with. -/
def fitB (b : Bg) (Q : List Int) : Prop := b.n ≤ 8 * (Q.length : Int) ∧ Al b.e.A Q b.n.toNat

instance (b : Bg) (Q : List Int) : Decidable (fitB b Q) := inferInstanceAs (Decidable (_ ∧ _))

/-- The longest beginning among the first k; below 0: none; of those for the same bits the last one. -/
def LongAt (P : List Bg) (Q : List Int) (k : Nat) (b : Int) : Prop :=
  (b = -1 ∧ ∀ j (h : j < P.length), j < k → ¬ fitB P[j] Q) ∨
    ∃ t, ∃ h : t < P.length, t < k ∧ b = (t : Int) ∧ fitB P[t] Q ∧ ∀ j (h : j < P.length), j < k → fitB P[j] Q → P[j].n ≤ P[t].n ∧ (P[j].n = P[t].n → j ≤ t)

theorem long_get {T : Tn} {P : List Bg} {Q q : List Int} {m : Nat} {b : Int} (h : Inv T P) (hw : T.wf) (hq : padN (Q.take 16) = q) (hm : 8 * (min Q.length 16) = m) (hl : LongAt P Q P.length b) :
    (b = -1 ∧ T.get q m none = none) ∨ ∃ t, ∃ h : t < P.length, b = (t : Int) ∧ T.get q m none = some (P[t].n.toNat, P[t].val) := by
  have g := T.get_lg q m hw
  have bd : ∀ i (hi : i < P.length), 0 ≤ P[i].n ∧ P[i].n ≤ 128 := fun i hi => by
    have := h.right _ (List.getElem_mem hi)
    have h1 := this.1
    have h2 := this.2
    omega
  -- an entry is a beginning of q just if what was put for it fits
  have tr : ∀ (e : List Int × Nat × Int) i (hi : i < P.length), (e.2.1 : Int) = P[i].n → Al e.1 P[i].e.A e.2.1 → ((e.2.1 ≤ m ∧ Al e.1 q e.2.1) ↔ fitB P[i] Q) := by
    intro e i hi h1 h2
    have hb := bd i hi
    have hn : P[i].n.toNat = e.2.1 := by omega
    unfold fitB
    rw [hn]
    constructor
    · rintro ⟨k1, k2⟩
      refine ⟨by omega, ?_⟩
      rw [take_al (by omega), hq]
      exact h2.symm.trans k2
    · rintro ⟨k1, k2⟩
      rw [take_al (by omega), hq] at k2
      exact ⟨by omega, h2.trans k2⟩
  rcases hl with ⟨rfl, hn⟩ | ⟨t, ht, _, rfl, hf, hmx⟩
  · refine Or.inl ⟨rfl, ?_⟩
    cases hx : T.get q m none with
    | none => rfl
    | some p =>
      exfalso
      rw [hx] at g
      obtain ⟨n, v⟩ := p
      obtain ⟨⟨a, k1, k2, k3⟩, _⟩ := g
      obtain ⟨i, hi, q1, _, q3, _⟩ := h.ofT _ k1
      exact hn i hi hi ((tr _ i hi q1.symm q3.symm).1 ⟨k2, k3⟩)
  · refine Or.inr ⟨t, ht, rfl, ?_⟩
    obtain ⟨e, k1, k2, k3⟩ := h.ofP t ht
    have ke := (tr e t ht k2 k3).2 hf
    cases hx : T.get q m none with
    | none =>
      rw [hx] at g
      exact absurd ke (g e k1)
    | some p =>
      rw [hx] at g
      obtain ⟨n, v⟩ := p
      obtain ⟨⟨a, j1, j2, j3⟩, j4⟩ := g
      have j5 := j4 e k1 ke.1 ke.2
      obtain ⟨i, hi, q1, q2, q3, q4⟩ := h.ofT _ j1
      have q1' : P[i].n = (n : Int) := q1
      have fi := (tr (a, n, v) i hi q1.symm q3.symm).1 ⟨j2, j3⟩
      have hmi := hmx i hi hi fi
      have hnt : P[t].n = P[i].n := by omega
      have hit : i ≤ t := hmi.2 (by omega)
      have : i = t := by
        rcases Nat.lt_or_ge i t with z | z
        · exfalso
          refine q4 t ht z ⟨hnt, fun y hy => ?_⟩
          have f1 := hf.2 y (by omega)
          have f2 := fi.2 y (by omega)
          rw [f1, f2]
        · omega
      subst this
      congr 1
      exact Prod.ext (by simp only; omega) (by simp only; exact q2.symm)

end Go.Proofs.Ytoakpkpdipgfoaa
