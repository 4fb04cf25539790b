/-
  Plain: what was written is read: the parts one behind the other, the whole message; and what was read can be written, if it is not too long. Plain: with one record more behind its last ones a message is sent as it was, but for how many there are, and longer; no message is longer than its parts.
-/
import Derived.Test.YtjpahieeaojieabMgFacts
namespace Go.Proofs.Ytjpahieeaojieab
open Go.RowKit Go.Deep

theorem fold_q (qs : List Qn) : ∀ s : List Int × List (Int × List ByteArray), ∃ more, (qs.foldl stepQ s).1 = s.1 ++ more := by
  induction qs with
  | nil => intro s; exact ⟨[], by simp⟩
  | cons q qs ih =>
    intro s
    obtain ⟨more, h⟩ := ih (stepQ s q)
    refine ⟨packB s.2 q.N ++ (twoN q.ty ++ twoN q.cl) ++ more, ?_⟩
    rw [List.foldl_cons, h]
    simp [stepQ]

theorem fold_r (rs : List Rn) : ∀ s : List Int × List (Int × List ByteArray), ∃ more, (rs.foldl stepR s).1 = s.1 ++ more := by
  induction rs with
  | nil => intro s; exact ⟨[], by simp⟩
  | cons r rs ih =>
    intro s
    obtain ⟨more, h⟩ := ih (stepR s r)
    refine ⟨packB s.2 r.N ++ fieldsN r.ty r.cl r.ttl r.D ++ more, ?_⟩
    rw [List.foldl_cons, h]
    simp [stepR]

theorem read_q {s : List Int × List (Int × List ByteArray)} {q : Qn} (hs : Good s) (hq : qE q = 0) (more : List Int) : readQ ((stepQ s q).1 ++ more) s.1.length = (0, q, (stepQ s q).1.length) := by
  obtain ⟨k0, ⟨t0, t1⟩, t2, t3⟩ := qE_zero hq
  have hr := (tab_next hs.1 hs.2.1 k0 (twoN q.ty ++ twoN q.cl ++ more)).1
  have e : (stepQ s q).1 ++ more = s.1 ++ packB s.2 q.N ++ (twoN q.ty ++ twoN q.cl ++ more) := by simp [stepQ]
  have el : (stepQ s q).1.length = (s.1 ++ packB s.2 q.N).length + 4 := by simp only [stepQ, List.length_append, two_len]
  rw [e, readQ_of hr (by simp only [List.length_append, two_len]; omega), el]
  generalize s.1 ++ packB s.2 q.N = P
  have c1 : Nm.cut (P ++ (twoN q.ty ++ twoN q.cl ++ more)) P.length 2 = twoN q.ty := by
    have := cut_behind P (twoN q.ty ++ twoN q.cl ++ more) 0 2
    rw [Nat.add_zero] at this
    rw [this]
    simp [Nm.cut, twoN]
  have c2 : Nm.cut (P ++ (twoN q.ty ++ twoN q.cl ++ more)) (P.length + 2) 2 = twoN q.cl := by
    rw [cut_behind]
    simp [Nm.cut, twoN]
  rw [c1, c2, two_num _ t0 t1, two_num _ t2 t3, map_nums]

theorem read_r {s : List Int × List (Int × List ByteArray)} {r : Rn} (hs : Good s) (hr : rE r = 0) (more : List Int) :
    recW ((stepR s r).1 ++ more) (s.1.length : Int) = (0, r.N.map Nm.bs, (s.1 ++ packB s.2 r.N).length, (stepR s r).1.length) ∧ readR ((stepR s r).1 ++ more) s.1.length = (0, r, (stepR s r).1.length) := by
  obtain ⟨k0, ⟨t0, t1⟩, ⟨t2, t3⟩, ⟨t4, t5⟩, hd⟩ := recE_zero hr
  have hp := (pack_is r.N hs.2.1).1
  have f := rec_found (ms := s.1) (starts := startsT s.2 r.N) (more := more) (n := r.N) (ty := r.ty) (cl := r.cl) (ttl := r.ttl) (D := r.D) hs.1 k0 hd
  rw [hp] at f
  have e : (stepR s r).1 ++ more = s.1 ++ packB s.2 r.N ++ fieldsN r.ty r.cl r.ttl r.D ++ more := rfl
  have el : (stepR s r).1.length = (s.1 ++ packB s.2 r.N).length + 10 + r.D.length := by
    show (s.1 ++ packB s.2 r.N ++ fieldsN r.ty r.cl r.ttl r.D).length = _
    rw [List.length_append, fields_len]
    omega
  have f2 : recW ((stepR s r).1 ++ more) (s.1.length : Int) = (0, r.N.map Nm.bs, (s.1 ++ packB s.2 r.N).length, (stepR s r).1.length) := by
    rw [el, e]
    exact f
  refine ⟨f2, ?_⟩
  rw [readR_of f2]
  have hpn : pairN ((stepR s r).1 ++ more) ((s.1 ++ packB s.2 r.N).length + 8) = r.D.length := by
    obtain ⟨_, h2, _⟩ := recW_ok f2
    omega
  rw [hpn, e]
  generalize s.1 ++ packB s.2 r.N = P
  rw [rec_ty P more t0 t1, rec_cl P more t2 t3, rec_ttl P more t4 t5, rec_data P more, map_nums]

theorem back_q : ∀ (qs : List Qn) (s : List Int × List (Int × List ByteArray)) (more : List Int), Good s → (∀ q ∈ qs, qE q = 0) → Parts (readQ ((qs.foldl stepQ s).1 ++ more)) s.1.length qs (qs.foldl stepQ s).1.length := by
  intro qs
  induction qs with
  | nil => intro s more _ _; rfl
  | cons q qs ih =>
    intro s more hs hq
    have h1 := hq q List.mem_cons_self
    obtain ⟨m2, e⟩ := fold_q qs (stepQ s q)
    rw [List.foldl_cons]
    refine ⟨(stepQ s q).1.length, ?_, ih (stepQ s q) more (good_q hs (qE_zero h1).1) fun x hx => hq x (List.mem_cons_of_mem _ hx)⟩
    rw [e, List.append_assoc]
    exact read_q hs h1 _

theorem back_r : ∀ (rs : List Rn) (s : List Int × List (Int × List ByteArray)) (more : List Int), Good s → (∀ r ∈ rs, rE r = 0) → (∀ r ∈ rs, ∀ b ∈ r.D, 0 ≤ b ∧ b ≤ 255) → Parts (readR ((rs.foldl stepR s).1 ++ more)) s.1.length rs (rs.foldl stepR s).1.length := by
  intro rs
  induction rs with
  | nil => intro s more _ _ _; rfl
  | cons r rs ih =>
    intro s more hs hr hD
    have h1 := hr r List.mem_cons_self
    obtain ⟨m2, e⟩ := fold_r rs (stepR s r)
    rw [List.foldl_cons]
    refine ⟨(stepR s r).1.length, ?_, ih (stepR s r) more (good_r hs (recE_zero h1).1 (hD r List.mem_cons_self)) (fun x hx => hr x (List.mem_cons_of_mem _ hx)) fun x hx => hD x (List.mem_cons_of_mem _ hx)⟩
    rw [e, List.append_assoc]
    exact (read_r hs h1 _).2

theorem parts_split {α : Type} {f : Nat → Int × α × Nat} : ∀ {xs ys : List α} {a e : Nat}, Parts f a (xs ++ ys) e → ∃ b, Parts f a xs b ∧ Parts f b ys e := by
  intro xs
  induction xs with
  | nil => intro ys a e h; exact ⟨a, rfl, h⟩
  | cons x xs ih =>
    intro ys a e h
    obtain ⟨n, h1, h2⟩ := h
    obtain ⟨b, h3, h4⟩ := ih h2
    exact ⟨b, ⟨n, h1, h3⟩, h4⟩

/-- A message that can be sent. -/
theorem msgE_zero {h : Hd} {qs : List Qn} {r1 r2 r3 : List Rn} (k : msgE h qs r1 r2 r3 = 0) : HdOk h ∧ (qs.length ≤ 65535 ∧ r1.length ≤ 65535 ∧ r2.length ≤ 65535 ∧ r3.length ≤ 65535) ∧ (∀ q ∈ qs, qE q = 0) ∧ (∀ r ∈ r1 ++ r2 ++ r3, rE r = 0) ∧ (endS h qs r1 r2 r3).1.length ≤ 65535 := by
  unfold msgE at k
  by_cases c0 : hdE h = 0
  case neg => rw [if_pos c0] at k; exact absurd k c0
  rw [if_neg (by simp [c0])] at k
  by_cases c1 : 65535 < qs.length ∨ 65535 < r1.length ∨ 65535 < r2.length ∨ 65535 < r3.length
  · rw [if_pos c1] at k; cases k
  rw [if_neg c1] at k
  by_cases c2 : firstE qE qs = 0
  case neg => rw [if_pos c2] at k; exact absurd k c2
  rw [if_neg (by simp [c2])] at k
  by_cases c3 : firstE rE (r1 ++ r2 ++ r3) = 0
  case neg => rw [if_pos c3] at k; exact absurd k c3
  rw [if_neg (fun q => q c3)] at k
  by_cases c4 : 65535 < (endS h qs r1 r2 r3).1.length
  · rw [if_pos c4] at k; cases k
  exact ⟨hdE_of c0, by omega, firstE_all c2, firstE_all c3, by omega⟩

theorem ahead_pairs (h : Hd) (l0 l1 l2 l3 : Nat) (h0 : l0 ≤ 65535) (h1 : l1 ≤ 65535) (h2 : l2 ≤ 65535) (h3 : l3 ≤ 65535) (more : List Int) :
    pairN (aheadN h l0 l1 l2 l3 ++ more) 4 = l0 ∧ pairN (aheadN h l0 l1 l2 l3 ++ more) 6 = l1 ∧ pairN (aheadN h l0 l1 l2 l3 ++ more) 8 = l2 ∧ pairN (aheadN h l0 l1 l2 l3 ++ more) 10 = l3 := by
  simp only [pairN, aheadN, hdB, headN, twoN, List.cons_append, List.nil_append, List.getD_cons_succ, List.getD_cons_zero]
  omega

theorem end_form (h : Hd) (qs : List Qn) (r1 r2 r3 : List Rn) : ∃ more, (endS h qs r1 r2 r3).1 = aheadN h qs.length r1.length r2.length r3.length ++ more := by
  obtain ⟨m1, e1⟩ := fold_q qs (aheadN h qs.length r1.length r2.length r3.length, [])
  obtain ⟨m2, e2⟩ := fold_r (r1 ++ r2 ++ r3) (qs.foldl stepQ (aheadN h qs.length r1.length r2.length r3.length, []))
  refine ⟨m1 ++ m2, ?_⟩
  unfold endS
  rw [e2, e1, List.append_assoc]

/-- What is sent is read. -/
theorem msg_back {h : Hd} {qs : List Qn} {r1 r2 r3 : List Rn} (k : msgE h qs r1 r2 r3 = 0) (hD : ∀ r ∈ r1 ++ r2 ++ r3, ∀ b ∈ r.D, 0 ≤ b ∧ b ≤ 255) :
    msgR (endS h qs r1 r2 r3).1 = (0, qs, r1, r2, r3) ∧ hdR (endS h qs r1 r2 r3).1 = h ∧ (∀ b ∈ (endS h qs r1 r2 r3).1, 0 ≤ b ∧ b ≤ 255) := by
  obtain ⟨hh, ⟨l0, l1, l2, l3⟩, hq, hr, _⟩ := msgE_zero k
  have g0 := good_start hh qs.length r1.length r2.length r3.length
  have g1 := good_qs g0 hq
  have g2 := good_rs g1 hr hD
  obtain ⟨more, ef⟩ := end_form h qs r1 r2 r3
  obtain ⟨m2, e2⟩ := fold_r (r1 ++ r2 ++ r3) (qs.foldl stepQ (aheadN h qs.length r1.length r2.length r3.length, []))
  have pq := back_q qs (aheadN h qs.length r1.length r2.length r3.length, []) m2 g0 hq
  rw [← e2] at pq
  have pr := back_r (r1 ++ r2 ++ r3) (qs.foldl stepQ (aheadN h qs.length r1.length r2.length r3.length, [])) [] g1 hr hD
  rw [List.append_nil] at pr
  have hF : ((r1 ++ r2 ++ r3).foldl stepR (qs.foldl stepQ (aheadN h qs.length r1.length r2.length r3.length, []))).1 = (endS h qs r1 r2 r3).1 := rfl
  rw [hF] at pq pr
  obtain ⟨b2, p12, p3⟩ := parts_split pr
  obtain ⟨b1, p1, p2⟩ := parts_split p12
  obtain ⟨n0, n1, n2, n3⟩ := ahead_pairs h qs.length r1.length r2.length r3.length l0 l1 l2 l3 more
  rw [← ef] at n0 n1 n2 n3
  have q0 : partsN (readQ (endS h qs r1 r2 r3).1) (pairN (endS h qs r1 r2 r3).1 4) 12 = (0, qs, (qs.foldl stepQ (aheadN h qs.length r1.length r2.length r3.length, [])).1.length) := by rw [n0]; exact parts_of pq
  have q1 : partsN (readR (endS h qs r1 r2 r3).1) (pairN (endS h qs r1 r2 r3).1 6) (qs.foldl stepQ (aheadN h qs.length r1.length r2.length r3.length, [])).1.length = (0, r1, b1) := by rw [n1]; exact parts_of p1
  have q2 : partsN (readR (endS h qs r1 r2 r3).1) (pairN (endS h qs r1 r2 r3).1 8) b1 = (0, r2, b2) := by rw [n2]; exact parts_of p2
  have q3 : partsN (readR (endS h qs r1 r2 r3).1) (pairN (endS h qs r1 r2 r3).1 10) b2 = (0, r3, (endS h qs r1 r2 r3).1.length) := by rw [n3]; exact parts_of p3
  refine ⟨?_, ?_, g2.1⟩
  · rw [msgR_4 (by rw [ef, List.length_append, ahead_len]; omega) q0 q1 q2 q3, if_neg (Nat.lt_irrefl _)]
  · rw [ef]
    unfold aheadN
    rw [List.append_assoc, List.append_assoc, List.append_assoc, List.append_assoc]
    exact hdR_of hh _

theorem num_cut_two {ms : List Int} (hb : ∀ b ∈ ms, 0 ≤ b ∧ b ≤ 255) {i : Nat} (h : i + 2 ≤ ms.length) : 0 ≤ numN (Nm.cut ms i 2) ∧ numN (Nm.cut ms i 2) ≤ 65535 := by
  rw [num_cut2 h]
  have g0 := getD_byte hb i
  have g1 := getD_byte hb (i + 1)
  omega

theorem num_cut_four {ms : List Int} (hb : ∀ b ∈ ms, 0 ≤ b ∧ b ≤ 255) {i : Nat} (h : i + 4 ≤ ms.length) : 0 ≤ numN (Nm.cut ms i 4) ∧ numN (Nm.cut ms i 4) ≤ 4294967295 := by
  rw [num_cut4 h]
  have g0 := getD_byte hb i
  have g1 := getD_byte hb (i + 1)
  have g2 := getD_byte hb (i + 2)
  have g3 := getD_byte hb (i + 3)
  omega

theorem readQ_may {ms : List Int} (hb : ∀ b ∈ ms, 0 ≤ b ∧ b ≤ 255) {a n : Nat} {q : Qn} (h : readQ ms a = (0, q, n)) : qE q = 0 := by
  obtain ⟨L, m, h1, h2, _, rfl⟩ := readQ_ok h
  obtain ⟨_, _, _, c, d⟩ := readW_may hb h1
  unfold qE
  rw [map_bs_of L d, if_neg (by simp [c]), if_neg]
  simp only [Decidable.not_not]
  exact ⟨num_cut_two hb (by omega), num_cut_two hb (by omega)⟩

theorem readR_may {ms : List Int} (hb : ∀ b ∈ ms, 0 ≤ b ∧ b ≤ 255) {a n : Nat} {r : Rn} (h : readR ms a = (0, r, n)) : rE r = 0 ∧ ∀ b ∈ r.D, 0 ≤ b ∧ b ≤ 255 := by
  obtain ⟨L, m, h1, h2, h3, rfl⟩ := readR_ok h
  obtain ⟨_, _, _, c, d⟩ := readW_may hb (recW_ok h1).1
  refine ⟨?_, fun b q => hb b ?_⟩
  · unfold rE recE
    have hp := pair_le hb (m + 8)
    rw [map_bs_of L d, if_neg (by simp [c]), if_neg, if_neg]
    · rw [Nm.cut_length (by omega)]; omega
    · simp only [Decidable.not_not]
      exact ⟨num_cut_two hb (by omega), num_cut_two hb (by omega), num_cut_four hb (by omega)⟩
  · unfold Nm.cut at q
    exact List.mem_of_mem_drop (List.mem_of_mem_take q)

theorem parts_all {α : Type} {f : Nat → Int × α × Nat} {P : α → Prop} (hf : ∀ a x n, f a = (0, x, n) → P x) : ∀ {xs : List α} {a e : Nat}, Parts f a xs e → ∀ x ∈ xs, P x := by
  intro xs
  induction xs with
  | nil => intro a e _ x hx; simp at hx
  | cons y ys ih =>
    intro a e h x hx
    obtain ⟨n, h1, h2⟩ := h
    rcases List.mem_cons.1 hx with q | q
    · rw [q]; exact hf _ _ _ h1
    · exact ih h2 x q

/-- What is read can be sent, if it is not too long. -/
theorem read_sent {ms : List Int} (hb : ∀ b ∈ ms, 0 ≤ b ∧ b ≤ 255) {qs : List Qn} {r1 r2 r3 : List Rn} (h : msgR ms = (0, qs, r1, r2, r3)) :
    (msgE (hdR ms) qs r1 r2 r3 = 0 ∨ msgE (hdR ms) qs r1 r2 r3 = 7) ∧ ∀ r ∈ r1 ++ r2 ++ r3, ∀ b ∈ r.D, 0 ≤ b ∧ b ≤ 255 := by
  obtain ⟨h12, a0, a1, a2, e0, e1, e2, e3, f0, f1, f2⟩ := msgR_ok hb h
  obtain ⟨l0, p0⟩ := parts_ok e0
  obtain ⟨l1, p1⟩ := parts_ok e1
  obtain ⟨l2, p2⟩ := parts_ok e2
  obtain ⟨l3, p3⟩ := parts_ok e3
  have z0 := pair_le hb 4
  have z1 := pair_le hb 6
  have z2 := pair_le hb 8
  have z3 := pair_le hb 10
  have hq : ∀ q ∈ qs, qE q = 0 := parts_all (fun a x n k => readQ_may hb k) p0
  have k1 := parts_all (P := fun r => rE r = 0 ∧ ∀ b ∈ r.D, 0 ≤ b ∧ b ≤ 255) (fun a x n k => readR_may hb k) p1
  have k2 := parts_all (P := fun r => rE r = 0 ∧ ∀ b ∈ r.D, 0 ≤ b ∧ b ≤ 255) (fun a x n k => readR_may hb k) p2
  have k3 := parts_all (P := fun r => rE r = 0 ∧ ∀ b ∈ r.D, 0 ≤ b ∧ b ≤ 255) (fun a x n k => readR_may hb k) p3
  have hr : ∀ r ∈ r1 ++ r2 ++ r3, rE r = 0 ∧ ∀ b ∈ r.D, 0 ≤ b ∧ b ≤ 255 := by
    intro r hr
    simp only [List.mem_append] at hr
    rcases hr with (hr | hr) | hr
    · exact k1 r hr
    · exact k2 r hr
    · exact k3 r hr
  refine ⟨?_, fun r q => (hr r q).2⟩
  unfold msgE
  rw [hdE_ok (hdB_of hb (by omega)).2, if_neg (by simp), if_neg (by omega), firstE_zero hq, if_neg (by simp), firstE_zero (fun r q => (hr r q).1), if_neg (by simp)]
  by_cases c : 65535 < (endS (hdR ms) qs r1 r2 r3).1.length
  · rw [if_pos c]; exact Or.inr rfl
  · rw [if_neg c]; exact Or.inl rfl

end Go.Proofs.Ytjpahieeaojieab

namespace Go.Proofs.Ytjpahieeaojieab
open Go.RowKit Go.Deep

/-- Two states that differ in what stands ahead alone. -/
def Alike (A A' : List Int) (s s' : List Int × List (Int × List ByteArray)) : Prop := ∃ X, s.1 = A ++ X ∧ s'.1 = A' ++ X ∧ s.2 = s'.2

theorem alike_q {A A' : List Int} (hl : A.length = A'.length) : ∀ (qs : List Qn) {s s' : List Int × List (Int × List ByteArray)}, Alike A A' s s' → Alike A A' (qs.foldl stepQ s) (qs.foldl stepQ s') := by
  intro qs
  induction qs with
  | nil => intro s s' h; exact h
  | cons q qs ih =>
    intro s s' h
    refine ih ?_
    obtain ⟨X, h1, h2, h3⟩ := h
    refine ⟨X ++ packB s.2 q.N ++ (twoN q.ty ++ twoN q.cl), ?_, ?_, ?_⟩
    · simp [stepQ, h1]
    · simp [stepQ, h2, h3]
    · simp [stepQ, h1, h2, h3, hl]

theorem alike_r {A A' : List Int} (hl : A.length = A'.length) : ∀ (rs : List Rn) {s s' : List Int × List (Int × List ByteArray)}, Alike A A' s s' → Alike A A' (rs.foldl stepR s) (rs.foldl stepR s') := by
  intro rs
  induction rs with
  | nil => intro s s' h; exact h
  | cons r rs ih =>
    intro s s' h
    refine ih ?_
    obtain ⟨X, h1, h2, h3⟩ := h
    refine ⟨X ++ packB s.2 r.N ++ fieldsN r.ty r.cl r.ttl r.D, ?_, ?_, ?_⟩
    · simp [stepR, h1]
    · simp [stepR, h2, h3]
    · simp [stepR, h1, h2, h3, hl]

/-- What a message is with one more record behind its last ones. -/
theorem grows (h : Hd) (qs : List Qn) (r1 r2 r3 : List Rn) (r : Rn) : ∃ X more, (endS h qs r1 r2 r3).1 = aheadN h qs.length r1.length r2.length r3.length ++ X ∧ (endS h qs r1 r2 (r3 ++ [r])).1 = aheadN h qs.length r1.length r2.length (r3.length + 1) ++ X ++ more ∧ 11 ≤ more.length := by
  have hq := alike_r (A := aheadN h qs.length r1.length r2.length r3.length) (A' := aheadN h qs.length r1.length r2.length (r3.length + 1)) rfl (r1 ++ r2 ++ r3) (alike_q (A := aheadN h qs.length r1.length r2.length r3.length) (A' := aheadN h qs.length r1.length r2.length (r3.length + 1)) rfl qs (s := (aheadN h qs.length r1.length r2.length r3.length, [])) (s' := (aheadN h qs.length r1.length r2.length (r3.length + 1), [])) (show Alike (aheadN h qs.length r1.length r2.length r3.length) (aheadN h qs.length r1.length r2.length (r3.length + 1)) _ _ from ⟨[], (List.append_nil _).symm, (List.append_nil _).symm, rfl⟩))
  obtain ⟨X, h1, h2, _⟩ := hq
  obtain ⟨more, h3⟩ := fold_r [r] ((r1 ++ r2 ++ r3).foldl stepR (qs.foldl stepQ (aheadN h qs.length r1.length r2.length (r3.length + 1), [])))
  have h4 := (step_r_len ((r1 ++ r2 ++ r3).foldl stepR (qs.foldl stepQ (aheadN h qs.length r1.length r2.length (r3.length + 1), []))) r).1
  rw [List.foldl_cons, List.foldl_nil] at h3
  rw [h3, List.length_append] at h4
  refine ⟨X, more, h1, ?_, by omega⟩
  unfold endS
  rw [← List.append_assoc, List.foldl_append, List.length_append, List.foldl_cons, List.foldl_nil]
  rw [← h2]
  exact h3

/-- How long the parts are. -/
def longQ (qs : List Qn) : Nat := (qs.map (fun q => Nm.total (q.N.map Nm.bs) + 1 + 4)).sum

def longR (rs : List Rn) : Nat := (rs.map (fun r => Nm.total (r.N.map Nm.bs) + 1 + 10 + r.D.length)).sum

theorem long_q : ∀ (qs : List Qn) (s : List Int × List (Int × List ByteArray)), (qs.foldl stepQ s).1.length ≤ s.1.length + longQ qs := by
  intro qs
  induction qs with
  | nil => intro s; simp [longQ]
  | cons q qs ih =>
    intro s
    have h1 := ih (stepQ s q)
    have h2 := (step_q_len s q).2
    have h3 : longQ (q :: qs) = Nm.total (q.N.map Nm.bs) + 1 + 4 + longQ qs := by simp [longQ]
    rw [List.foldl_cons]; omega

theorem long_r : ∀ (rs : List Rn) (s : List Int × List (Int × List ByteArray)), (rs.foldl stepR s).1.length ≤ s.1.length + longR rs := by
  intro rs
  induction rs with
  | nil => intro s; simp [longR]
  | cons r rs ih =>
    intro s
    have h1 := ih (stepR s r)
    have h2 := (step_r_len s r).2
    have h3 : longR (r :: rs) = Nm.total (r.N.map Nm.bs) + 1 + 10 + r.D.length + longR rs := by simp [longR]
    rw [List.foldl_cons]; omega

theorem long_all (h : Hd) (qs : List Qn) (r1 r2 r3 : List Rn) : (endS h qs r1 r2 r3).1.length ≤ 12 + longQ qs + longR (r1 ++ r2 ++ r3) := by
  have h1 := long_r (r1 ++ r2 ++ r3) (qs.foldl stepQ (aheadN h qs.length r1.length r2.length r3.length, []))
  have h2 := long_q qs (aheadN h qs.length r1.length r2.length r3.length, [])
  have h3 := ahead_len h qs.length r1.length r2.length r3.length
  unfold endS
  simp only [h3] at h2
  omega

theorem longQ_next (qs : List Qn) (i : Nat) (hi : i < qs.length) : longQ (qs.take (i + 1)) = longQ (qs.take i) + (Nm.total (qs[i].N.map Nm.bs) + 1 + 4) := by
  unfold longQ
  rw [List.take_succ_eq_append_getElem hi, List.map_append, List.sum_append]
  simp only [List.map_cons, List.map_nil, List.sum_cons, List.sum_nil, Nat.add_zero]

theorem longR_next (rs : List Rn) (i : Nat) (hi : i < rs.length) : longR (rs.take (i + 1)) = longR (rs.take i) + (Nm.total (rs[i].N.map Nm.bs) + 1 + 10 + rs[i].D.length) := by
  unfold longR
  rw [List.take_succ_eq_append_getElem hi, List.map_append, List.sum_append]
  simp only [List.map_cons, List.map_nil, List.sum_cons, List.sum_nil, Nat.add_zero]

theorem longQ_le (qs : List Qn) (h : ∀ q ∈ qs, qE q = 0) : longQ qs ≤ qs.length * 259 := by
  induction qs with
  | nil => simp [longQ]
  | cons q qs ih =>
    have h1 := ih (fun x hx => h x (List.mem_cons_of_mem _ hx))
    have h2 := (check_zero (qE_zero (h q List.mem_cons_self)).1).2
    have h3 : longQ (q :: qs) = Nm.total (q.N.map Nm.bs) + 1 + 4 + longQ qs := by simp [longQ]
    rw [List.length_cons]; omega

/-- What is sent, in both cases, part by part. -/
theorem grows_parts {h : Hd} {qs : List Qn} {r1 r2 r3 : List Rn} {r : Rn} : ((endS h qs r1 r2 r3).1.take 10 = (endS h qs r1 r2 (r3 ++ [r])).1.take 10) ∧
    ((endS h qs r1 r2 r3).1.drop 12 = ((endS h qs r1 r2 (r3 ++ [r])).1.take (endS h qs r1 r2 r3).1.length).drop 12) ∧
    (endS h qs r1 r2 r3).1.length + 11 ≤ (endS h qs r1 r2 (r3 ++ [r])).1.length ∧ 12 ≤ (endS h qs r1 r2 r3).1.length := by
  obtain ⟨X, more, h1, h2, h3⟩ := grows h qs r1 r2 r3 r
  have hA := ahead_len h qs.length r1.length r2.length r3.length
  have hA' := ahead_len h qs.length r1.length r2.length (r3.length + 1)
  rw [h1, h2]
  refine ⟨?_, ?_, ?_, ?_⟩
  · rw [List.append_assoc, List.take_append_of_le_length (by rw [hA]; decide), List.take_append_of_le_length (by rw [hA']; decide)]
    simp [aheadN, hdB, headN, twoN]
  · have e : (aheadN h qs.length r1.length r2.length r3.length ++ X).length = (aheadN h qs.length r1.length r2.length (r3.length + 1) ++ X).length := by rw [List.length_append, List.length_append, hA, hA']
    rw [e, List.take_left]
    exact (List.drop_left' hA).trans (List.drop_left' hA').symm
  · simp only [List.length_append, hA, hA']; omega
  · rw [List.length_append, hA]; omega

end Go.Proofs.Ytjpahieeaojieab
