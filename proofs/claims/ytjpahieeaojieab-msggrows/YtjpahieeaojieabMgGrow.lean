/-
  Plain: with one record more behind its last ones a message is sent as it was, but for how many there are, and longer; no message is longer than its parts.
-/
import Derived.Test.YtjpahieeaojieabMgBack
namespace Go.Proofs.Ytjpahieeaojieab
open Go.RowKit Go.Deep

/-- Two states that differ in what stands ahead alone. -/
def Alike (A A' : List Int) (s s' : List Int × List (Int × List ByteArray)) : Prop := ∃ X, s.1 = A ++ X ∧ s'.1 = A' ++ X ∧ s.2 = s'.2

theorem alike_q {A A' : List Int} (hl : A.length = A'.length) : ∀ (qs : List Qn) {s s' : List Int × List (Int × List ByteArray)}, Alike A A' s s' → Alike A A' (qs.foldl stepQ s) (qs.foldl stepQ s') := by
  intro qs
  induction qs with
  | nil => intro s s' h; exact h
  | cons q qs ih =>
    intro s s' h
    refine ih ?_
    obtain ⟨X, h1, h2, h3⟩ := h
    refine ⟨X ++ packB s.2 q.N ++ (twoN q.ty ++ twoN q.cl), ?_, ?_, ?_⟩
    · simp [stepQ, h1]
    · simp [stepQ, h2, h3]
    · simp [stepQ, h1, h2, h3, hl]

theorem alike_r {A A' : List Int} (hl : A.length = A'.length) : ∀ (rs : List Rn) {s s' : List Int × List (Int × List ByteArray)}, Alike A A' s s' → Alike A A' (rs.foldl stepR s) (rs.foldl stepR s') := by
  intro rs
  induction rs with
  | nil => intro s s' h; exact h
  | cons r rs ih =>
    intro s s' h
    refine ih ?_
    obtain ⟨X, h1, h2, h3⟩ := h
    refine ⟨X ++ packB s.2 r.N ++ fieldsN r.ty r.cl r.ttl r.D, ?_, ?_, ?_⟩
    · simp [stepR, h1]
    · simp [stepR, h2, h3]
    · simp [stepR, h1, h2, h3, hl]

/-- What a message is with one more record behind its last ones. -/
theorem grows (h : Hd) (qs : List Qn) (r1 r2 r3 : List Rn) (r : Rn) : ∃ X more, (endS h qs r1 r2 r3).1 = aheadN h qs.length r1.length r2.length r3.length ++ X ∧ (endS h qs r1 r2 (r3 ++ [r])).1 = aheadN h qs.length r1.length r2.length (r3.length + 1) ++ X ++ more ∧ 11 ≤ more.length := by
  have hq := alike_r (A := aheadN h qs.length r1.length r2.length r3.length) (A' := aheadN h qs.length r1.length r2.length (r3.length + 1)) rfl (r1 ++ r2 ++ r3) (alike_q (A := aheadN h qs.length r1.length r2.length r3.length) (A' := aheadN h qs.length r1.length r2.length (r3.length + 1)) rfl qs (s := (aheadN h qs.length r1.length r2.length r3.length, [])) (s' := (aheadN h qs.length r1.length r2.length (r3.length + 1), [])) (show Alike (aheadN h qs.length r1.length r2.length r3.length) (aheadN h qs.length r1.length r2.length (r3.length + 1)) _ _ from ⟨[], (List.append_nil _).symm, (List.append_nil _).symm, rfl⟩))
  obtain ⟨X, h1, h2, _⟩ := hq
  obtain ⟨more, h3⟩ := fold_r [r] ((r1 ++ r2 ++ r3).foldl stepR (qs.foldl stepQ (aheadN h qs.length r1.length r2.length (r3.length + 1), [])))
  have h4 := (step_r_len ((r1 ++ r2 ++ r3).foldl stepR (qs.foldl stepQ (aheadN h qs.length r1.length r2.length (r3.length + 1), []))) r).1
  rw [List.foldl_cons, List.foldl_nil] at h3
  rw [h3, List.length_append] at h4
  refine ⟨X, more, h1, ?_, by omega⟩
  unfold endS
  rw [← List.append_assoc, List.foldl_append, List.length_append, List.foldl_cons, List.foldl_nil]
  rw [← h2]
  exact h3

/-- How long the parts are. -/
def longQ (qs : List Qn) : Nat := (qs.map (fun q => Nm.total (q.N.map Nm.bs) + 1 + 4)).sum

def longR (rs : List Rn) : Nat := (rs.map (fun r => Nm.total (r.N.map Nm.bs) + 1 + 10 + r.D.length)).sum

theorem long_q : ∀ (qs : List Qn) (s : List Int × List (Int × List ByteArray)), (qs.foldl stepQ s).1.length ≤ s.1.length + longQ qs := by
  intro qs
  induction qs with
  | nil => intro s; simp [longQ]
  | cons q qs ih =>
    intro s
    have h1 := ih (stepQ s q)
    have h2 := (step_q_len s q).2
    have h3 : longQ (q :: qs) = Nm.total (q.N.map Nm.bs) + 1 + 4 + longQ qs := by simp [longQ]
    rw [List.foldl_cons]; omega

theorem long_r : ∀ (rs : List Rn) (s : List Int × List (Int × List ByteArray)), (rs.foldl stepR s).1.length ≤ s.1.length + longR rs := by
  intro rs
  induction rs with
  | nil => intro s; simp [longR]
  | cons r rs ih =>
    intro s
    have h1 := ih (stepR s r)
    have h2 := (step_r_len s r).2
    have h3 : longR (r :: rs) = Nm.total (r.N.map Nm.bs) + 1 + 10 + r.D.length + longR rs := by simp [longR]
    rw [List.foldl_cons]; omega

theorem long_all (h : Hd) (qs : List Qn) (r1 r2 r3 : List Rn) : (endS h qs r1 r2 r3).1.length ≤ 12 + longQ qs + longR (r1 ++ r2 ++ r3) := by
  have h1 := long_r (r1 ++ r2 ++ r3) (qs.foldl stepQ (aheadN h qs.length r1.length r2.length r3.length, []))
  have h2 := long_q qs (aheadN h qs.length r1.length r2.length r3.length, [])
  have h3 := ahead_len h qs.length r1.length r2.length r3.length
  unfold endS
  simp only [h3] at h2
  omega

theorem longQ_next (qs : List Qn) (i : Nat) (hi : i < qs.length) : longQ (qs.take (i + 1)) = longQ (qs.take i) + (Nm.total (qs[i].N.map Nm.bs) + 1 + 4) := by
  unfold longQ
  rw [List.take_succ_eq_append_getElem hi, List.map_append, List.sum_append]
  simp only [List.map_cons, List.map_nil, List.sum_cons, List.sum_nil, Nat.add_zero]

theorem longR_next (rs : List Rn) (i : Nat) (hi : i < rs.length) : longR (rs.take (i + 1)) = longR (rs.take i) + (Nm.total (rs[i].N.map Nm.bs) + 1 + 10 + rs[i].D.length) := by
  unfold longR
  rw [List.take_succ_eq_append_getElem hi, List.map_append, List.sum_append]
  simp only [List.map_cons, List.map_nil, List.sum_cons, List.sum_nil, Nat.add_zero]

theorem longQ_le (qs : List Qn) (h : ∀ q ∈ qs, qE q = 0) : longQ qs ≤ qs.length * 259 := by
  induction qs with
  | nil => simp [longQ]
  | cons q qs ih =>
    have h1 := ih (fun x hx => h x (List.mem_cons_of_mem _ hx))
    have h2 := (check_zero (qE_zero (h q List.mem_cons_self)).1).2
    have h3 : longQ (q :: qs) = Nm.total (q.N.map Nm.bs) + 1 + 4 + longQ qs := by simp [longQ]
    rw [List.length_cons]; omega

/-- What is sent, in both cases, part by part. -/
theorem grows_parts {h : Hd} {qs : List Qn} {r1 r2 r3 : List Rn} {r : Rn} : ((endS h qs r1 r2 r3).1.take 10 = (endS h qs r1 r2 (r3 ++ [r])).1.take 10) ∧
    ((endS h qs r1 r2 r3).1.drop 12 = ((endS h qs r1 r2 (r3 ++ [r])).1.take (endS h qs r1 r2 r3).1.length).drop 12) ∧
    (endS h qs r1 r2 r3).1.length + 11 ≤ (endS h qs r1 r2 (r3 ++ [r])).1.length ∧ 12 ≤ (endS h qs r1 r2 r3).1.length := by
  obtain ⟨X, more, h1, h2, h3⟩ := grows h qs r1 r2 r3 r
  have hA := ahead_len h qs.length r1.length r2.length r3.length
  have hA' := ahead_len h qs.length r1.length r2.length (r3.length + 1)
  rw [h1, h2]
  refine ⟨?_, ?_, ?_, ?_⟩
  · rw [List.append_assoc, List.take_append_of_le_length (by rw [hA]; decide), List.take_append_of_le_length (by rw [hA']; decide)]
    simp [aheadN, hdB, headN, twoN]
  · have e : (aheadN h qs.length r1.length r2.length r3.length ++ X).length = (aheadN h qs.length r1.length r2.length (r3.length + 1) ++ X).length := by rw [List.length_append, List.length_append, hA, hA']
    rw [e, List.take_left]
    exact (List.drop_left' hA).trans (List.drop_left' hA').symm
  · simp only [List.length_append, hA, hA']; omega
  · rw [List.length_append, hA]; omega

end Go.Proofs.Ytjpahieeaojieab
