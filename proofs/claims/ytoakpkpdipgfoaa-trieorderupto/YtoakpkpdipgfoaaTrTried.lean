/-
  The walk of the statements' own tried; plain: what one more value changes.
-/
import Derived.Test.YtoakpkpdipgfoaaTrBeg
namespace Go.Proofs.Ytoakpkpdipgfoaa
open Go.RowKit Go.Deep

/-- No two entries are for the same bits. -/
theorem ents_one {T : Tn} (h : T.wf) : ∀ e1 ∈ T.ents, ∀ e2 ∈ T.ents, e1.2.1 = e2.2.1 → Al e1.1 e2.1 e1.2.1 → e1 = e2 := by
  induction T with
  | nil => intro e1 h1; simp [Tn.ents] at h1
  | node b a n v g l r ihl ihr =>
    obtain ⟨_, hl, hr, wl, wr⟩ := h
    have base : ∀ e1 ∈ (Tn.node b a n v g l r).ents, ∀ e2 ∈ (Tn.node b a n v g l r).ents, e1.2.1 = e2.2.1 → Al e1.1 e2.1 e1.2.1 → e1.2.1 ≠ n ∨ e2.2.1 ≠ n → e1 = e2 := by
      intro e1 h1 e2 h2 q1 q2 hne
      simp only [Tn.ents, List.mem_append] at h1 h2
      have o1 : e1 ∈ l.ents ∨ e1 ∈ r.ents := by
        rcases h1 with h1 | h1
        · cases g with
          | false => simp at h1
          | true => simp at h1; subst h1; simp at q1 hne; omega
        · exact h1
      have o2 : e2 ∈ l.ents ∨ e2 ∈ r.ents := by
        rcases h2 with h2 | h2
        · cases g with
          | false => simp at h2
          | true => simp at h2; subst h2; simp at q1 hne; omega
        · exact h2
      rcases o1 with o1 | o1 <;> rcases o2 with o2 | o2
      · exact ihl wl e1 o1 e2 o2 q1 q2
      · have k1 := hl _ (Tn.ent_key o1)
        have k2 := hr _ (Tn.ent_key o2)
        have := q2 n k1.1
        rw [k1.2.2, k2.2.2] at this
        exact absurd this (by decide)
      · have k1 := hr _ (Tn.ent_key o1)
        have k2 := hl _ (Tn.ent_key o2)
        have := q2 n k1.1
        rw [k1.2.2, k2.2.2] at this
        exact absurd this (by decide)
      · exact ihr wr e1 o1 e2 o2 q1 q2
    intro e1 h1 e2 h2 q1 q2
    by_cases c1 : e1.2.1 = n
    · have c2 : e2.2.1 = n := by omega
      have own : ∀ e ∈ (Tn.node b a n v g l r).ents, e.2.1 = n → e = (a, n, v) := by
        intro e he hn
        simp only [Tn.ents, List.mem_append] at he
        rcases he with he | he | he
        · cases g with
          | false => simp at he
          | true => simpa using he
        · have := (hl _ (Tn.ent_key he)).1; simp only at this; omega
        · have := (hr _ (Tn.ent_key he)).1; simp only at this; omega
      rw [own e1 h1 c1, own e2 h2 c2]
    · exact base e1 h1 e2 h2 q1 q2 (Or.inl c1)

/-- What is told of a trie with one more value. -/
theorem get_upd {T T' : Tn} {A q : List Int} {n m : Nat} {val : Int} (hT : T.wf) (hT' : T'.wf) (u : Upd T T' A n val) :
    (n ≤ m ∧ Al A q n ∧ (∀ k v, T.get q m none = some (k, v) → k ≤ n) → T'.get q m none = some (n, val)) ∧
    ((¬ (n ≤ m ∧ Al A q n) ∨ ∃ k v, T.get q m none = some (k, v) ∧ n < k) → T'.get q m none = T.get q m none) := by
  have g1 := T.get_lg q m hT
  have g2 := T'.get_lg q m hT'
  obtain ⟨a, ha, he⟩ := u.ents
  generalize T.get q m none = x1 at *
  generalize T'.get q m none = x2 at *
  constructor
  · rintro ⟨h1, h2, h3⟩
    have hin : (a, n, val) ∈ T'.ents := (he _).2 (Or.inl rfl)
    cases x2 with
    | none => exact absurd ⟨h1, ha.trans h2⟩ (g2 _ hin)
    | some p =>
      obtain ⟨n', v'⟩ := p
      obtain ⟨⟨a', k1, k2, k3⟩, k4⟩ := g2
      have k5 := k4 _ hin h1 (ha.trans h2)
      simp only at k5
      rcases (he _).1 k1 with k6 | ⟨k6, k7⟩
      · simp only [Prod.mk.injEq] at k6
        rw [k6.2.1, k6.2.2]
      · exfalso
        cases x1 with
        | none => exact g1 _ k6 ⟨k2, k3⟩
        | some p1 =>
          obtain ⟨k, v⟩ := p1
          have k8 := g1.2 _ k6 k2 k3
          have k9 := h3 k v rfl
          simp only at k8
          exact k7 ⟨by simp only; omega, fun i hi => by simp only at hi ⊢; rw [k3 i (by omega), h2 i hi]⟩
  · intro hc
    have old : ∀ e ∈ T.ents, e.2.1 ≤ m → Al e.1 q e.2.1 → (∀ k v, x1 = some (k, v) → n < k → k ≤ e.2.1) → e ∈ T'.ents := by
      intro e h1 h2 h3 h4
      refine (he _).2 (Or.inr ⟨h1, fun h5 => ?_⟩)
      rcases hc with hc | ⟨k, v, e1, e2⟩
      · exact hc ⟨by omega, fun i hi => by rw [← h5.2 i hi, h3 i (by omega)]⟩
      · have := h4 k v e1 e2
        omega
    have new : ∀ e ∈ T'.ents, e.2.1 ≤ m → Al e.1 q e.2.1 → (∀ k v, x1 = some (k, v) → n < k → k ≤ e.2.1) → e ∈ T.ents := by
      intro e h1 h2 h3 h4
      rcases (he _).1 h1 with rfl | ⟨h5, _⟩
      · exfalso
        rcases hc with hc | ⟨k, v, e1, e2⟩
        · exact hc ⟨h2, fun i hi => by rw [← ha i hi]; exact h3 i hi⟩
        · have := h4 k v e1 e2
          simp only at this
          omega
      · exact h5
    cases x1 with
    | none =>
      cases x2 with
      | none => rfl
      | some p =>
        obtain ⟨n', v'⟩ := p
        obtain ⟨⟨a', k1, k2, k3⟩, _⟩ := g2
        exact absurd ⟨k2, k3⟩ (g1 _ (new _ k1 k2 k3 (fun _ _ z => by cases z)))
    | some p1 =>
      obtain ⟨k, v⟩ := p1
      obtain ⟨⟨a1, j1, j2, j3⟩, j4⟩ := g1
      have j5 := old _ j1 j2 j3 (fun k' v' z _ => by cases z; exact Nat.le_refl _)
      cases x2 with
      | none => exact absurd ⟨j2, j3⟩ (g2 _ j5)
      | some p =>
        obtain ⟨n', v'⟩ := p
        obtain ⟨⟨a', k1, k2, k3⟩, k4⟩ := g2
        have k5 := k4 _ j5 j2 j3
        simp only at k5
        have k6 := new _ k1 k2 k3 (fun k' v' z _ => by cases z; exact k5)
        have k7 := j4 _ k6 k2 k3
        simp only at k7
        obtain rfl : k = n' := by omega
        have := ents_one hT _ k6 _ j1 rfl (k3.trans j3.symm)
        simp only [Prod.mk.injEq] at this
        rw [this.2.2]

theorem get_tried {T' : Tn} (hT' : T'.wf) (u : Upd .nil T' [128] 1 7) : T'.get (padN [255]) 8 none = some (1, 7) :=
  (get_upd (T := .nil) trivial hT' u).1 ⟨by decide, (fun i hi => by obtain rfl : i = 0 := (by omega); decide), fun k v z => by simp [Tn.get] at z⟩

set_option maxHeartbeats 1000000 in
set_option maxRecDepth 100000 in
theorem tried_any (w : World) : Calls Try.prog 5 #[] w fun e w' => e = .returned (.bool true) ∧ Below w.heap.size w w' := by
  go_enter Try.func5, Try.ntmps5
  go_upto_region 2 with (go_at_call 8; refine (new_at _).mono ?_; rintro e w1 ⟨rfl, k1, d1⟩)
  have S1 := hid (TrieS.new k1)
  have hle := d1.size
  have B1 := hid d1
  have hz : (w1.alloc (.cells #[.int .u8 128] 5)).heap.size = w1.heap.size + 1 := by simp
  have B1' : Hid (Below w.heap.size w (w1.alloc (.cells #[.int .u8 128] 5))) := hid (d1.alloc hle _)
  have CP := hid (tput_good w.heap.size .nil (x := some ⟨w1.heap.size, 0, none⟩) (c := 1) (l := 1) [128] 1 7 (w1.alloc (.cells #[.int .u8 128] 5)) (S1.out.below ((Below.refl _ _).alloc (Nat.le_refl _) _)) (bys_new w1 [128] (by decide) (by decide)) rfl (by decide) (by decide) (by simp [Tn.ents]))
  clear k1 d1
  go_upto_region 4 with (go_at_call 9; refine CP.out.mono ?_; rintro e w2 ⟨rfl, T', S2, U2, O2, N2⟩)
  have hg := get_tried S2.wf U2
  have B2 : Below w.heap.size w w2 := O2.below B1'.out (by omega) (fun b hb => by
    have : b = w.heap.size := by simpa [Tn.blks] using hb
    omega)
  have CG := hid (tget_q w.heap.size T' (padN [255]) 8 (x := some ⟨w2.heap.size, 0, none⟩) (c := 1) (l := 1) (z := 1) [255] (w2.alloc (.cells #[.int .u8 255] 5)) (S2.below ((Below.refl _ _).alloc (Nat.le_refl _) _)) (bys_new w2 [255] (by decide) (by decide)) rfl (by decide) (by decide) (fun q => by cases q) rfl rfl rfl _ hg)
  have HB2 := hid B2
  clear S2 U2 O2 N2 hg B2
  go_upto_region 5 with (go_at_call 10; refine CG.out.mono ?_; rintro e w3 ⟨rfl, d3⟩; rw [getV])
  go_wp2
  go_ret
  exact ⟨rfl, grown_on (HB2.out.alloc HB2.out.size _) d3⟩

end Go.Proofs.Ytoakpkpdipgfoaa
