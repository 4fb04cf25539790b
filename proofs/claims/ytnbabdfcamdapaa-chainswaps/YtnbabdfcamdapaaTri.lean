/-
  Plain: a trie: its nodes, what is in it, what is told, where a beginning is laid.
-/
import Derived.Test.YtnbabdfcamdapaaBit
namespace Go.Proofs.Ytnbabdfcamdapaa
open Go.RowKit

/-- A trie below a pointer: a node's block, its address, how many of its bits, its value, whether it has one, what lies below. -/
inductive Tn where
  | nil : Tn
  | node (b : Nat) (a : List Int) (n : Nat) (v : Int) (h : Bool) (l r : Tn) : Tn

namespace Tn

def keys : Tn → List (List Int × Nat)
  | nil => []
  | node _ a n _ _ l r => (a, n) :: (l.keys ++ r.keys)

def ents : Tn → List (List Int × Nat × Int)
  | nil => []
  | node _ a n v h l r => (if h then [(a, n, v)] else []) ++ (l.ents ++ r.ents)

def blks : Tn → List Nat
  | nil => []
  | node b _ _ _ _ l r => b :: (l.blks ++ r.blks)

def ptr : Tn → Option Nat
  | nil => none
  | node b _ _ _ _ _ _ => some b

def wf : Tn → Prop
  | nil => True
  | node _ a n _ _ l r => (n ≤ 128 ∧ a.length = 16 ∧ (∀ x ∈ a, 0 ≤ x ∧ x ≤ 255)) ∧ (∀ x ∈ l.keys, n < x.2 ∧ Al a x.1 n ∧ bitN x.1 n = 0) ∧ (∀ x ∈ r.keys, n < x.2 ∧ Al a x.1 n ∧ bitN x.1 n = 1) ∧ l.wf ∧ r.wf

/-- What Get tells of what lies here, behind what was found. -/
def get (q : List Int) (m : Nat) : Tn → Option (Nat × Int) → Option (Nat × Int)
  | nil, x => x
  | node _ a n v h l r, x =>
    if n ≤ m ∧ Al a q n then
      if n = m then (if h then some (n, v) else x)
      else if bitN q n = 0 then l.get q m (if h then some (n, v) else x) else r.get q m (if h then some (n, v) else x)
    else x

def size : Tn → Nat
  | nil => 0
  | node _ _ _ _ _ l r => l.size + r.size + 1

theorem ent_key {t : Tn} {e : List Int × Nat × Int} (h : e ∈ t.ents) : (e.1, e.2.1) ∈ t.keys := by
  induction t with
  | nil => simp [ents] at h
  | node b a n v g l r ihl ihr =>
    simp only [ents, List.mem_append] at h
    simp only [keys, List.mem_cons, List.mem_append]
    rcases h with h | h | h
    · left
      cases g with
      | false => simp at h
      | true => simp at h; subst h; rfl
    · exact Or.inr (Or.inl (ihl h))
    · exact Or.inr (Or.inr (ihr h))

end Tn

/-- The longest beginning among some entries. -/
def Lg (E : List (List Int × Nat × Int)) (q : List Int) (m : Nat) : Option (Nat × Int) → Prop
  | none => ∀ e ∈ E, ¬ (e.2.1 ≤ m ∧ Al e.1 q e.2.1)
  | some (n, v) => (∃ a, (a, n, v) ∈ E ∧ n ≤ m ∧ Al a q n) ∧ ∀ e ∈ E, e.2.1 ≤ m → Al e.1 q e.2.1 → e.2.1 ≤ n

/-- What was found ahead, or something longer from here. -/
def Lx (E : List (List Int × Nat × Int)) (q : List Int) (m : Nat) (x : Option (Nat × Int)) (y : Option (Nat × Int)) : Prop :=
  (y = x ∧ ∀ e ∈ E, ¬ (e.2.1 ≤ m ∧ Al e.1 q e.2.1)) ∨ ∃ n v, y = some (n, v) ∧ (∃ a, (a, n, v) ∈ E ∧ n ≤ m ∧ Al a q n) ∧ ∀ e ∈ E, e.2.1 ≤ m → Al e.1 q e.2.1 → e.2.1 ≤ n

theorem Tn.get_lx (q : List Int) (m : Nat) (t : Tn) (hw : t.wf) (x : Option (Nat × Int)) : Lx t.ents q m x (t.get q m x) := by
  induction t generalizing x with
  | nil => exact Or.inl ⟨rfl, fun e h => by simp [ents] at h⟩
  | node b a n v g l r ihl ihr =>
    obtain ⟨_, hl, hr, wl, wr⟩ := hw
    have key : ∀ e ∈ l.ents ++ r.ents, e.2.1 ≤ m → Al e.1 q e.2.1 → n < m ∧ Al a q n := by
      intro e he h1 h2
      rcases List.mem_append.1 he with h | h
      · obtain ⟨k1, k2, _⟩ := hl _ (ent_key h)
        exact ⟨by simp only at k1; omega, k2.trans (h2.mono (by simp only at k1; omega))⟩
      · obtain ⟨k1, k2, _⟩ := hr _ (ent_key h)
        exact ⟨by simp only at k1; omega, k2.trans (h2.mono (by simp only at k1; omega))⟩
    have kl : ∀ e ∈ l.ents, Al e.1 q e.2.1 → bitN q n = 0 := fun e he h2 => by
      obtain ⟨k1, _, k3⟩ := hl _ (ent_key he)
      rw [← h2 n (by simpa using k1)]; exact k3
    have kr : ∀ e ∈ r.ents, Al e.1 q e.2.1 → bitN q n = 1 := fun e he h2 => by
      obtain ⟨k1, _, k3⟩ := hr _ (ent_key he)
      rw [← h2 n (by simpa using k1)]; exact k3
    have nl : ∀ e ∈ l.ents, n < e.2.1 := fun e he => (hl _ (ent_key he)).1
    have nr : ∀ e ∈ r.ents, n < e.2.1 := fun e he => (hr _ (ent_key he)).1
    unfold get
    by_cases c1 : n ≤ m ∧ Al a q n
    · rw [if_pos c1]
      by_cases c2 : n = m
      · rw [if_pos c2]
        cases g with
        | false =>
          left
          refine ⟨by simp, fun e he h => ?_⟩
          have he' : e ∈ l.ents ++ r.ents := by simpa [ents] using he
          have := (key e he' h.1 h.2).1
          omega
        | true =>
          right
          refine ⟨n, v, by simp, ⟨a, by simp [ents], c1.1, c1.2⟩, fun e he h1 h2 => ?_⟩
          omega
      · rw [if_neg c2]
        have step : ∀ (s o : Tn), s = l ∧ o = r ∨ s = r ∧ o = l → (∀ e ∈ o.ents, ¬ (e.2.1 ≤ m ∧ Al e.1 q e.2.1)) → (∀ y, Lx s.ents q m y (s.get q m y)) →
            Lx (Tn.node b a n v g l r).ents q m x (s.get q m (if g then some (n, v) else x)) := by
          intro s o hso ho hs
          have mem : ∀ e, e ∈ (Tn.node b a n v g l r).ents ↔ (g = true ∧ e = (a, n, v)) ∨ e ∈ s.ents ∨ e ∈ o.ents := by
            intro e
            simp only [ents, List.mem_append]
            cases g <;> rcases hso with ⟨rfl, rfl⟩ | ⟨rfl, rfl⟩ <;> simp [or_comm]
          have ns : ∀ e ∈ s.ents, n < e.2.1 := by
            rcases hso with ⟨rfl, _⟩ | ⟨rfl, _⟩
            · exact nl
            · exact nr
          rcases hs (if g then some (n, v) else x) with ⟨e1, e2⟩ | ⟨n', v', e1, ⟨a', e2, e3, e4⟩, e5⟩
          · rw [e1]
            cases g with
            | false =>
              refine Or.inl ⟨by simp, fun e he h => ?_⟩
              rcases (mem e).1 he with ⟨q1, _⟩ | h1 | h1
              · cases q1
              · exact e2 e h1 h
              · exact ho e h1 h
            | true =>
              refine Or.inr ⟨n, v, by simp, ⟨a, (mem _).2 (Or.inl ⟨rfl, rfl⟩), c1.1, c1.2⟩, fun e he h1 h2 => ?_⟩
              rcases (mem e).1 he with ⟨_, rfl⟩ | h3 | h3
              · exact Nat.le_refl _
              · exact absurd ⟨h1, h2⟩ (e2 e h3)
              · exact absurd ⟨h1, h2⟩ (ho e h3)
          · rw [e1]
            refine Or.inr ⟨n', v', rfl, ⟨a', (mem _).2 (Or.inr (Or.inl e2)), e3, e4⟩, fun e he h1 h2 => ?_⟩
            rcases (mem e).1 he with ⟨_, rfl⟩ | h3 | h3
            · have := ns _ e2
              simp only at this ⊢
              omega
            · exact e5 e h3 h1 h2
            · exact absurd ⟨h1, h2⟩ (ho e h3)
        by_cases c3 : bitN q n = 0
        · rw [if_pos c3]
          exact step l r (Or.inl ⟨rfl, rfl⟩) (fun e he h => by have := kr e he h.2; omega) (fun y => ihl wl y)
        · rw [if_neg c3]
          exact step r l (Or.inr ⟨rfl, rfl⟩) (fun e he h => c3 (kl e he h.2)) (fun y => ihr wr y)
    · rw [if_neg c1]
      refine Or.inl ⟨rfl, fun e he h => ?_⟩
      simp only [ents, List.mem_append] at he
      rcases he with he | he
      · cases g with
        | false => simp at he
        | true => simp at he; subst he; exact c1 h
      · have := key e (List.mem_append.2 he) h.1 h.2
        exact c1 ⟨by omega, this.2⟩

theorem Tn.get_lg (q : List Int) (m : Nat) (t : Tn) (hw : t.wf) : Lg t.ents q m (t.get q m none) := by
  rcases t.get_lx q m hw none with ⟨h1, h2⟩ | ⟨n, v, h1, h2, h3⟩
  · rw [h1]; exact h2
  · rw [h1]; exact ⟨h2, h3⟩

end Go.Proofs.Ytnbabdfcamdapaa
