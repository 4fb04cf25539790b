/-
  Plain: the parts of a message, one behind the other, as they are read; a question, a record, a message.
-/
import Derived.Test.YtbbgabdiikdjpaaDoorRrFacts
namespace Go.Proofs.YtbbgabdiikdjpaaDoor
open Go.RowKit Go.Deep

/-- A question. -/
structure Qn where
  N : List ByteArray
  ty : Int
  cl : Int

/-- A record. -/
structure Rn where
  N : List ByteArray
  ty : Int
  cl : Int
  ttl : Int
  D : List Int

/-- So many parts of one kind, one behind the other: what is wrong, they, the place behind them. -/
def partsN {α : Type} (f : Nat → Int × α × Nat) : Nat → Nat → Int × List α × Nat
  | 0, a => (0, [], a)
  | c + 1, a => if ¬ (f a).1 = 0 then ((f a).1, [], 0) else if ¬ (partsN f c (f a).2.2).1 = 0 then ((partsN f c (f a).2.2).1, [], 0) else (0, (f a).2.1 :: (partsN f c (f a).2.2).2.1, (partsN f c (f a).2.2).2.2)

/-- These parts stand from a place on, and end at another one. -/
def Parts {α : Type} (f : Nat → Int × α × Nat) : Nat → List α → Nat → Prop
  | a, [], e => e = a
  | a, x :: xs, e => ∃ n, f a = (0, x, n) ∧ Parts f n xs e

theorem parts_of {α : Type} {f : Nat → Int × α × Nat} : ∀ {xs : List α} {a e : Nat}, Parts f a xs e → partsN f xs.length a = (0, xs, e) := by
  intro xs
  induction xs with
  | nil => intro a e h; unfold Parts at h; subst h; rfl
  | cons x xs ih =>
    intro a e h
    unfold Parts at h
    obtain ⟨n, h1, h2⟩ := h
    have := ih h2
    rw [List.length_cons]
    unfold partsN
    rw [h1]
    simp only
    rw [this]
    simp

theorem parts_err {α : Type} {f : Nat → Int × α × Nat} {k : Int} (hk : ¬ k = 0) : ∀ {xs : List α} {a b c : Nat}, Parts f a xs b → xs.length < c → (f b).1 = k → partsN f c a = (k, [], 0) := by
  intro xs
  induction xs with
  | nil =>
    intro a b c h hc hf
    unfold Parts at h
    subst h
    obtain ⟨d, rfl⟩ : ∃ d, c = d + 1 := ⟨c - 1, by simp at hc; omega⟩
    unfold partsN
    rw [hf, if_pos hk]
  | cons x xs ih =>
    intro a b c h hc hf
    unfold Parts at h
    obtain ⟨n, h1, h2⟩ := h
    rw [List.length_cons] at hc
    obtain ⟨d, rfl⟩ : ∃ d, c = d + 1 := ⟨c - 1, by omega⟩
    have := ih (c := d) h2 (by omega) hf
    unfold partsN
    rw [h1]
    simp only
    rw [this]
    simp [hk]

theorem parts_snoc {α : Type} {f : Nat → Int × α × Nat} {x : α} {n : Nat} : ∀ {xs : List α} {a b : Nat}, Parts f a xs b → f b = (0, x, n) → Parts f a (xs ++ [x]) n := by
  intro xs
  induction xs with
  | nil => intro a b h hf; unfold Parts at h; subst h; exact ⟨n, hf, rfl⟩
  | cons y ys ih =>
    intro a b h hf
    unfold Parts at h
    obtain ⟨m, h1, h2⟩ := h
    exact ⟨m, h1, ih h2 hf⟩

theorem parts_ok {α : Type} {f : Nat → Int × α × Nat} : ∀ {c : Nat} {a e : Nat} {xs : List α}, partsN f c a = (0, xs, e) → xs.length = c ∧ Parts f a xs e := by
  intro c
  induction c with
  | zero => intro a e xs h; unfold partsN at h; cases h; exact ⟨rfl, rfl⟩
  | succ c ih =>
    intro a e xs h
    unfold partsN at h
    by_cases h1 : (f a).1 = 0
    · rw [if_neg (by simp [h1])] at h
      by_cases h2 : (partsN f c (f a).2.2).1 = 0
      · rw [if_neg (by simp [h2])] at h
        cases h
        obtain ⟨i1, i2⟩ := ih (show partsN f c (f a).2.2 = (0, (partsN f c (f a).2.2).2.1, (partsN f c (f a).2.2).2.2) by rw [← h2])
        exact ⟨by rw [List.length_cons, i1], ⟨(f a).2.2, by rw [← h1], i2⟩⟩
      · rw [if_pos h2] at h
        simp only [Prod.mk.injEq] at h
        exact absurd h.1 h2
    · rw [if_pos h1] at h
      simp only [Prod.mk.injEq] at h
      exact absurd h.1 h1

theorem parts_norm {α : Type} {f : Nat → Int × α × Nat} {c a e : Nat} {k : Int} {xs : List α} (h : partsN f c a = (k, xs, e)) (hk : ¬ k = 0) : xs = [] ∧ e = 0 := by
  cases c with
  | zero => unfold partsN at h; cases h; exact absurd rfl hk
  | succ c =>
    unfold partsN at h
    split at h
    · cases h; exact ⟨rfl, rfl⟩
    · split at h
      · cases h; exact ⟨rfl, rfl⟩
      · cases h; exact absurd rfl hk

theorem parts_app {α : Type} {f : Nat → Int × α × Nat} : ∀ {xs ys : List α} {a b e : Nat}, Parts f a xs b → Parts f b ys e → Parts f a (xs ++ ys) e := by
  intro xs
  induction xs with
  | nil => intro ys a b e h k; unfold Parts at h; subst h; exact k
  | cons x xs ih =>
    intro ys a b e h k
    unfold Parts at h
    obtain ⟨n, h1, h2⟩ := h
    exact ⟨n, h1, ih h2 k⟩

theorem parts_mono {α : Type} {f g : Nat → Int × α × Nat} (hfg : ∀ a x n, f a = (0, x, n) → g a = (0, x, n)) : ∀ {xs : List α} {a e : Nat}, Parts f a xs e → Parts g a xs e := by
  intro xs
  induction xs with
  | nil => intro a e h; exact h
  | cons x xs ih =>
    intro a e h
    unfold Parts at h
    obtain ⟨n, h1, h2⟩ := h
    exact ⟨n, hfg a x n h1, ih h2⟩

/-- With a reading that is the same or short: the parts are the same, or short. -/
theorem parts_cut {α : Type} {f g : Nat → Int × α × Nat} (hfg : ∀ a x n, f a = (0, x, n) → g a = (0, x, n) ∨ (g a).1 = 2) : ∀ {c a e : Nat} {xs : List α}, partsN f c a = (0, xs, e) → partsN g c a = (0, xs, e) ∨ (partsN g c a).1 = 2 := by
  intro c
  induction c with
  | zero => intro a e xs h; exact Or.inl h
  | succ c ih =>
    intro a e xs h
    have h0 := parts_ok h
    obtain ⟨hl, hp⟩ := h0
    match xs, hl, hp with
    | x :: xs, hl, hp =>
      unfold Parts at hp
      obtain ⟨n, h1, h2⟩ := hp
      rw [List.length_cons] at hl
      have hq := parts_of h2
      have hc : xs.length = c := by omega
      rw [hc] at hq
      rcases hfg a x n h1 with g1 | g1
      · rcases ih hq with g2 | g2
        · left
          unfold partsN
          rw [g1]
          simp only
          rw [g2]
          simp
        · right
          unfold partsN
          rw [g1]
          simp only
          simp [g2]
      · right
        unfold partsN
        simp [g1]

theorem parts_end {α : Type} {f : Nat → Int × α × Nat} {m : Nat} (hf : ∀ a x n, f a = (0, x, n) → a < n ∧ n ≤ m) : ∀ {xs : List α} {a e : Nat}, Parts f a xs e → a ≤ m → a + xs.length ≤ e ∧ e ≤ m := by
  intro xs
  induction xs with
  | nil => intro a e h ha; unfold Parts at h; subst h; simpa using ha
  | cons x xs ih =>
    intro a e h ha
    unfold Parts at h
    obtain ⟨n, h1, h2⟩ := h
    obtain ⟨q1, q2⟩ := hf a x n h1
    have := ih h2 q2
    rw [List.length_cons]
    omega

/-- The question at a place. -/
def readQ (ms : List Int) (a : Nat) : Int × Qn × Nat :=
  match readW ms (a : Int) with
  | (k, L, n) => if ¬ k = 0 then (k, ⟨[], 0, 0⟩, 0) else if ms.length < n + 4 then (2, ⟨[], 0, 0⟩, 0) else (0, ⟨L.map strOfNums, numN (Nm.cut ms n 2), numN (Nm.cut ms (n + 2) 2)⟩, n + 4)

/-- The record at a place. -/
def readR (ms : List Int) (a : Nat) : Int × Rn × Nat :=
  match recW ms (a : Int) with
  | (k, L, n, b) => if ¬ k = 0 then (k, ⟨[], 0, 0, 0, []⟩, 0) else (0, ⟨L.map strOfNums, numN (Nm.cut ms n 2), numN (Nm.cut ms (n + 2) 2), numN (Nm.cut ms (n + 4) 4), Nm.cut ms (n + 10) (pairN ms (n + 8))⟩, b)

theorem readQ_ok {ms : List Int} {a n : Nat} {q : Qn} (h : readQ ms a = (0, q, n)) : ∃ L m, readW ms (a : Int) = (0, L, m) ∧ m + 4 ≤ ms.length ∧ n = m + 4 ∧ q = ⟨L.map strOfNums, numN (Nm.cut ms m 2), numN (Nm.cut ms (m + 2) 2)⟩ := by
  unfold readQ at h
  split at h
  rename_i k L m e
  by_cases k0 : k = 0
  · subst k0
    rw [if_neg (by simp)] at h
    by_cases c : ms.length < m + 4
    · rw [if_pos c] at h; simp at h
    · rw [if_neg c] at h
      simp only [Prod.mk.injEq, true_and] at h
      obtain ⟨rfl, rfl⟩ := h
      exact ⟨L, m, e, by omega, rfl, rfl⟩
  · rw [if_pos k0] at h
    simp only [Prod.mk.injEq] at h
    exact absurd h.1 k0

theorem readQ_of {ms : List Int} {a m : Nat} {L : List (List Int)} (h : readW ms (a : Int) = (0, L, m)) (hm : m + 4 ≤ ms.length) : readQ ms a = (0, ⟨L.map strOfNums, numN (Nm.cut ms m 2), numN (Nm.cut ms (m + 2) 2)⟩, m + 4) := by
  unfold readQ
  rw [h]
  simp only
  rw [if_neg (by simp), if_neg (by omega)]

theorem readQ_bad {ms : List Int} {a m : Nat} {k : Int} {L : List (List Int)} (h : readW ms (a : Int) = (k, L, m)) (hk : ¬ k = 0) : readQ ms a = (k, ⟨[], 0, 0⟩, 0) := by
  unfold readQ
  rw [h]
  simp only
  rw [if_pos hk]

theorem readQ_short {ms : List Int} {a m : Nat} {L : List (List Int)} (h : readW ms (a : Int) = (0, L, m)) (hm : ms.length < m + 4) : readQ ms a = (2, ⟨[], 0, 0⟩, 0) := by
  unfold readQ
  rw [h]
  simp only
  rw [if_neg (by simp), if_pos hm]

theorem readR_ok {ms : List Int} {a n : Nat} {r : Rn} (h : readR ms a = (0, r, n)) : ∃ L m, recW ms (a : Int) = (0, L, m, n) ∧ n = m + 10 + pairN ms (m + 8) ∧ n ≤ ms.length ∧ r = ⟨L.map strOfNums, numN (Nm.cut ms m 2), numN (Nm.cut ms (m + 2) 2), numN (Nm.cut ms (m + 4) 4), Nm.cut ms (m + 10) (pairN ms (m + 8))⟩ := by
  unfold readR at h
  split at h
  rename_i k L m b e
  by_cases k0 : k = 0
  · subst k0
    rw [if_neg (by simp)] at h
    simp only [Prod.mk.injEq, true_and] at h
    obtain ⟨rfl, rfl⟩ := h
    obtain ⟨_, q1, q2⟩ := recW_ok e
    exact ⟨L, m, e, q1, q2, rfl⟩
  · rw [if_pos k0] at h
    simp only [Prod.mk.injEq] at h
    exact absurd h.1 k0

theorem readR_of {ms : List Int} {a m n : Nat} {L : List (List Int)} (h : recW ms (a : Int) = (0, L, m, n)) : readR ms a = (0, ⟨L.map strOfNums, numN (Nm.cut ms m 2), numN (Nm.cut ms (m + 2) 2), numN (Nm.cut ms (m + 4) 4), Nm.cut ms (m + 10) (pairN ms (m + 8))⟩, n) := by
  unfold readR
  rw [h]
  simp only
  rw [if_neg (by simp)]

theorem readR_bad {ms : List Int} {a : Nat} {k : Int} (h : (recW ms (a : Int)).1 = k) (hk : ¬ k = 0) : readR ms a = (k, ⟨[], 0, 0, 0, []⟩, 0) := by
  unfold readR
  split
  rename_i k' L m b e
  rw [e] at h
  simp only at h
  subst h
  rw [if_pos hk]

theorem readQ_step {ms : List Int} (hb : ∀ b ∈ ms, 0 ≤ b ∧ b ≤ 255) (a : Nat) (q : Qn) (n : Nat) (h : readQ ms a = (0, q, n)) : a < n ∧ n ≤ ms.length := by
  obtain ⟨L, m, h1, h2, rfl, _⟩ := readQ_ok h
  obtain ⟨_, m1, m2, _⟩ := readW_may hb h1
  omega

theorem readR_step {ms : List Int} (hb : ∀ b ∈ ms, 0 ≤ b ∧ b ≤ 255) (a : Nat) (r : Rn) (n : Nat) (h : readR ms a = (0, r, n)) : a < n ∧ n ≤ ms.length := by
  obtain ⟨L, m, h1, rfl, h3, _⟩ := readR_ok h
  obtain ⟨h4, _, _⟩ := recW_ok h1
  obtain ⟨_, m1, m2, _⟩ := readW_may hb h4
  omega

theorem pair_more (ms more : List Int) (i : Nat) (h : i + 2 ≤ ms.length) : pairN (ms ++ more) i = pairN ms i := by
  unfold pairN
  rw [Nm.getD_more ms more i (by omega), Nm.getD_more ms more (i + 1) (by omega)]

theorem readQ_more {ms : List Int} (more : List Int) (a : Nat) (q : Qn) (n : Nat) (h : readQ ms a = (0, q, n)) : readQ (ms ++ more) a = (0, q, n) := by
  obtain ⟨L, m, h1, h2, rfl, rfl⟩ := readQ_ok h
  rw [readQ_of (readW_behind more h1) (by rw [List.length_append]; omega), Nm.cut_more ms more m 2 (by omega), Nm.cut_more ms more (m + 2) 2 (by omega)]

theorem recW_more {ms : List Int} (more : List Int) {a : Int} {L : List (List Int)} {m n : Nat} (h : recW ms a = (0, L, m, n)) : recW (ms ++ more) a = (0, L, m, n) := by
  obtain ⟨h1, h2, h3⟩ := recW_ok h
  have h4 := readW_behind more h1
  unfold recW
  rw [h4]
  simp only
  rw [if_neg (by simp), pair_more ms more (m + 8) (by omega), List.length_append, if_neg (by omega), if_neg (by omega), h2]

theorem readR_more {ms : List Int} (more : List Int) (a : Nat) (r : Rn) (n : Nat) (h : readR ms a = (0, r, n)) : readR (ms ++ more) a = (0, r, n) := by
  obtain ⟨L, m, h1, h2, h3, rfl⟩ := readR_ok h
  rw [readR_of (recW_more more h1), Nm.cut_more ms more m 2 (by omega), Nm.cut_more ms more (m + 2) 2 (by omega), Nm.cut_more ms more (m + 4) 4 (by omega), pair_more ms more (m + 8) (by omega), Nm.cut_more ms more (m + 10) _ (by omega)]

/-- The message of bytes: what is wrong, and its sections. -/
def msgR (ms : List Int) : Int × List Qn × List Rn × List Rn × List Rn :=
  if ms.length < 12 then (2, [], [], [], []) else
    match partsN (readQ ms) (pairN ms 4) 12 with
    | (k0, qs, a0) => if ¬ k0 = 0 then (k0, [], [], [], []) else
      match partsN (readR ms) (pairN ms 6) a0 with
      | (k1, r1, a1) => if ¬ k1 = 0 then (k1, [], [], [], []) else
        match partsN (readR ms) (pairN ms 8) a1 with
        | (k2, r2, a2) => if ¬ k2 = 0 then (k2, [], [], [], []) else
          match partsN (readR ms) (pairN ms 10) a2 with
          | (k3, r3, a3) => if ¬ k3 = 0 then (k3, [], [], [], []) else if a3 < ms.length then (8, [], [], [], []) else (0, qs, r1, r2, r3)

end Go.Proofs.YtbbgabdiikdjpaaDoor
