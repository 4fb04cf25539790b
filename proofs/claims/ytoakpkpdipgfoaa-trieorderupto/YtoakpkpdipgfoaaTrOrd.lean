/-
  Plain: two lists of the same beginnings tell the same; two tries in one memory; a list without repeats has all.
-/
import Derived.Test.YtoakpkpdipgfoaaTrUn
namespace Go.Proofs.Ytoakpkpdipgfoaa
open Go.RowKit Go.Deep

/-- What the longest beginning among some tells, whatever their order. -/
def BestP (P : List Bg) (Q : List Int) : Option (Nat × Int) → Prop
  | none => ∀ b ∈ P, ¬ fitB b Q
  | some (n, v) => (∃ b ∈ P, fitB b Q ∧ b.n = (n : Int) ∧ b.val = v) ∧ ∀ b ∈ P, fitB b Q → b.n ≤ (n : Int)

theorem best_of {T : Tn} {P : List Bg} {Q q : List Int} {m : Nat} (h : Inv T P) (hw : T.wf) (hq : padN (Q.take 16) = q) (hm : 8 * (min Q.length 16) = m) : BestP P Q (T.get q m none) := by
  have g := T.get_lg q m hw
  have tr : ∀ (e : List Int × Nat × Int) i (hi : i < P.length), (e.2.1 : Int) = P[i].n → Al e.1 P[i].e.A e.2.1 → ((e.2.1 ≤ m ∧ Al e.1 q e.2.1) ↔ fitB P[i] Q) := by
    intro e i hi h1 h2
    have hr := h.right _ (List.getElem_mem hi)
    have hr1 := hr.1
    have hr2 := hr.2
    have hn : P[i].n.toNat = e.2.1 := by omega
    unfold fitB
    rw [hn]
    constructor
    · rintro ⟨k1, k2⟩
      refine ⟨by omega, ?_⟩
      rw [take_al (by omega), hq]
      exact h2.symm.trans k2
    · rintro ⟨k1, k2⟩
      rw [take_al (by omega), hq] at k2
      exact ⟨by omega, h2.trans k2⟩
  have back : ∀ b ∈ P, fitB b Q → ∃ e ∈ T.ents, (e.2.1 : Int) = b.n ∧ e.2.1 ≤ m ∧ Al e.1 q e.2.1 := by
    intro b hb hf
    obtain ⟨i, hi, rfl⟩ := List.mem_iff_getElem.1 hb
    obtain ⟨e, k1, k2, k3⟩ := h.ofP i hi
    have := (tr e i hi k2 k3).2 hf
    exact ⟨e, k1, k2, this.1, this.2⟩
  cases hx : T.get q m none with
  | none =>
    rw [hx] at g
    intro b hb hf
    obtain ⟨e, k1, _, k3, k4⟩ := back b hb hf
    exact g e k1 ⟨k3, k4⟩
  | some p =>
    rw [hx] at g
    obtain ⟨n, v⟩ := p
    obtain ⟨⟨a, j1, j2, j3⟩, j4⟩ := g
    obtain ⟨i, hi, q1, q2, q3, _⟩ := h.ofT _ j1
    have fi := (tr (a, n, v) i hi q1.symm q3.symm).1 ⟨j2, j3⟩
    refine ⟨⟨P[i], List.getElem_mem hi, fi, q1, q2⟩, fun b hb hf => ?_⟩
    obtain ⟨e, k1, k2, k3, k4⟩ := back b hb hf
    have := j4 e k1 k3 k4
    omega

theorem best_one {P P' : List Bg} {Q : List Int} {r r' : Option (Nat × Int)} (h : BestP P Q r) (h' : BestP P' Q r') (hm : ∀ b, b ∈ P ↔ b ∈ P') (hu : ∀ b ∈ P, ∀ b' ∈ P, fitB b Q → fitB b' Q → b.n = b'.n → b = b') : r = r' := by
  cases r with
  | none =>
    cases r' with
    | none => rfl
    | some p =>
      obtain ⟨n, v⟩ := p
      obtain ⟨⟨b, hb, hf, _⟩, _⟩ := h'
      exact absurd hf (h b ((hm b).2 hb))
  | some p =>
    obtain ⟨n, v⟩ := p
    obtain ⟨⟨b, hb, hf, hn, hv⟩, hx⟩ := h
    cases r' with
    | none => exact absurd hf (h' b ((hm b).1 hb))
    | some p' =>
      obtain ⟨n', v'⟩ := p'
      obtain ⟨⟨b', hb', hf', hn', hv'⟩, hx'⟩ := h'
      have h1 := hx b' ((hm b').2 hb') hf'
      have h2 := hx' b ((hm b).1 hb) hf
      have h3 : b.n = b'.n := by omega
      have h4 := hu b hb b' ((hm b').2 hb') hf hf' h3
      subst h4
      congr 1
      exact Prod.ext (by simp only; omega) (by simp only; rw [← hv, ← hv'])

/-- Unlike beginnings: who has the same bits is the same. -/
theorem un_apart {P : List Bg} (h : UnN P P.length) : ∀ i (hi : i < P.length) j (hj : j < P.length), P[i].n = P[j].n → Al P[i].e.A P[j].e.A P[i].n.toNat → i = j := by
  have key : ∀ i (hi : i < P.length) j (hj : j < P.length), j < i → P[j].n = P[i].n → Al P[j].e.A P[i].e.A P[i].n.toNat → False := by
    intro i hi j hj hlt h1 h2
    have hf := (h i hi hi).2
    unfold freshUp at hf
    rw [Bool.not_eq_true', ← Bool.not_eq_true, List.any_eq_true] at hf
    refine hf ⟨j, List.mem_range.2 hlt, ?_⟩
    unfold sameB
    rw [List.getD_eq_getElem?_getD, List.getD_eq_getElem?_getD, List.getElem?_eq_getElem hi, List.getElem?_eq_getElem hj]
    exact decide_eq_true ⟨h1, h2⟩
  intro i hi j hj h1 h2
  rcases Nat.lt_trichotomy i j with z | z | z
  · exact (key j hj i hi z h1 (by rw [← h1]; exact h2)).elim
  · exact z
  · exact (key i hi j hj z h1.symm h2.symm).elim

/-- A list without repeats of numbers below k has no more than k. -/
theorem nodup_le : ∀ (k : Nat) (Z : List Nat), Z.Nodup → (∀ z ∈ Z, z < k) → Z.length ≤ k := by
  intro k
  induction k with
  | zero =>
    intro Z _ h
    cases Z with
    | nil => exact Nat.le_refl _
    | cons z Z => exact absurd (h z (by simp)) (by omega)
  | succ k ih =>
    intro Z hn h
    by_cases c : k ∈ Z
    · have h1 := ih (Z.erase k) (hn.erase k) (fun z hz => by
        have h2 := h z (List.mem_of_mem_erase hz)
        have h3 : z ≠ k := fun q => by subst q; exact (hn.not_mem_erase) hz
        omega)
      have := List.length_erase_of_mem c
      omega
    · have h1 := ih Z hn (fun z hz => by
        have h2 := h z hz
        have h3 : z ≠ k := fun q => c (by rw [← q]; exact hz)
        omega)
      omega

theorem nodup_all {k : Nat} {Z : List Nat} (hn : Z.Nodup) (h : ∀ z ∈ Z, z < k) (hl : Z.length = k) : ∀ i, i < k → i ∈ Z := by
  intro i hi
  by_cases c : i ∈ Z
  · exact c
  · have := nodup_le k (i :: Z) (List.nodup_cons.2 ⟨c, hn⟩) (fun z hz => by
      rcases List.mem_cons.1 hz with rfl | q
      · exact hi
      · exact h z q)
    simp at this
    omega

/-- Two tries in one memory. -/
structure Two (ws wr : World) (t1 t2 gm : Nat) (T1 T2 : Tn) : Prop where
  s1 : TrieS wr t1 T1
  s2 : TrieS wr t2 T2
  n1 : ∀ b ∈ T1.blks, ws.heap.size ≤ b
  n2 : ∀ b ∈ T2.blks, ws.heap.size ≤ b
  dj : ∀ b ∈ t2 :: T2.blks, b ∉ t1 :: T1.blks
  only : Only [t1, t2, gm] ws wr

theorem Two.grow {ws wr w' : World} {t1 t2 gm : Nat} {T1 T2 : Tn} (h : Two ws wr t1 t2 gm T1 T2) (d : Below wr.heap.size wr w') : Two ws w' t1 t2 gm T1 T2 :=
  ⟨h.s1.below d, h.s2.below d, h.n1, h.n2, h.dj, h.only.grow d⟩

theorem Two.put1 {ws wr w' : World} {t1 t2 gm : Nat} {T1 T2 T' : Tn} (h : Two ws wr t1 t2 gm T1 T2) (s : TrieS w' t1 T') (o : Only (t1 :: T1.blks) wr w') (n : ∀ x ∈ T'.blks, x ∈ T1.blks ∨ wr.heap.size ≤ x) : Two ws w' t1 t2 gm T' T2 :=
  ⟨s, h.s2.other o h.dj, fun b hb => by
    rcases n b hb with q | q
    · exact h.n1 b q
    · exact Nat.le_trans h.only.size q, h.n2, fun b hb q => by
    have h1 := h.dj b hb
    have h2 := h.s2.lt b hb
    rcases List.mem_cons.1 q with e | e
    · exact h1 (by rw [e]; simp)
    · rcases n b e with z | z
      · exact h1 (List.mem_cons_of_mem _ z)
      · omega, h.only.trans o (fun x hx => by
    rcases List.mem_cons.1 hx with rfl | q
    · left; simp
    · right; exact h.n1 x q)⟩

theorem Two.put2 {ws wr w' : World} {t1 t2 gm : Nat} {T1 T2 T' : Tn} (h : Two ws wr t1 t2 gm T1 T2) (s : TrieS w' t2 T') (o : Only (t2 :: T2.blks) wr w') (n : ∀ x ∈ T'.blks, x ∈ T2.blks ∨ wr.heap.size ≤ x) : Two ws w' t1 t2 gm T1 T' :=
  ⟨h.s1.other o (fun b hb q => h.dj b q hb), s, h.n1, fun b hb => by
    rcases n b hb with q | q
    · exact h.n2 b q
    · exact Nat.le_trans h.only.size q, fun b hb q => by
    have h2 := h.s1.lt b q
    rcases List.mem_cons.1 hb with e | e
    · exact h.dj b (by rw [e]; simp) q
    · rcases n b e with z | z
      · exact h.dj b (List.mem_cons_of_mem _ z) q
      · omega, h.only.trans o (fun x hx => by
    rcases List.mem_cons.1 hx with rfl | q
    · left; simp
    · right; exact h.n2 x q)⟩

theorem TrieS.notBool {w : World} {tb : Nat} {T : Tn} (h : TrieS w tb T) {g : Nat} {C : Array Value} (hg : Bl 4 w g C) : g ∉ tb :: T.blks := by
  intro q
  unfold Bl at hg
  rcases List.mem_cons.1 q with rfl | q
  · have := h.root
    unfold Bl at this
    rw [hg] at this
    simp at this
  · obtain ⟨C', hC⟩ := h.mem.typed g q
    unfold Bl at hC
    rw [hg] at hC
    simp at hC

theorem Two.store {ws wr : World} {t1 t2 gm : Nat} {T1 T2 : Tn} {C : Array Value} (h : Two ws wr t1 t2 gm T1 T2) (hg : Bl 4 wr gm C) (i : Nat) (v : Value) : Two ws (wr.setCell ⟨gm, i, none⟩ v) t1 t2 gm T1 T2 := by
  have o : Only [gm] wr (wr.setCell ⟨gm, i, none⟩ v) := (Only.refl _ _).setCell (Or.inl (by simp)) _
  have h1 := h.s1.notBool hg
  have h2 := h.s2.notBool hg
  exact ⟨h.s1.other o (fun b hb q => h1 (by have : b = gm := (by simpa using q); rw [← this]; exact hb)), h.s2.other o (fun b hb q => h2 (by have : b = gm := (by simpa using q); rw [← this]; exact hb)), h.n1, h.n2, h.dj, h.only.setCell (Or.inl (by simp)) _⟩

/-- A fresh beginning, put: one entry more. -/
theorem Inv.one {T T' : Tn} {P : List Bg} {b : Bg} {N : Nat} (h : Inv T P) (hn : b.n = (N : Int)) (u : Upd T T' b.e.A N b.val) (hf : ∀ b' ∈ P, ¬ (b'.n = b.n ∧ Al b'.e.A b.e.A b.n.toNat)) : T'.ents.length = T.ents.length + 1 := by
  refine u.fresh ?_
  rintro ⟨e, he, h1, h2⟩
  obtain ⟨i, hi, q1, _, q3, _⟩ := h.ofT e he
  exact hf _ (List.getElem_mem hi) ⟨by omega, fun z hz => by rw [q3 z (by omega), h2 z (by omega)]⟩

end Go.Proofs.Ytoakpkpdipgfoaa
