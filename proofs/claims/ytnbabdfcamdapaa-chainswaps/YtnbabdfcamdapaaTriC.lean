/-
  Plain: a place in a trie: what lies around it; what is there when a node is laid there.
-/
import Derived.Test.YtnbabdfcamdapaaTri
namespace Go.Proofs.Ytnbabdfcamdapaa
open Go.RowKit

/-- A node on the way down, with what lies on its other side; dir: the way goes to the right. -/
structure Fr where
  b : Nat
  a : List Int
  n : Nat
  v : Int
  h : Bool
  dir : Bool
  s : Tn

namespace Fr

/-- The node with what lies below it. -/
def put (f : Fr) (t : Tn) : Tn := if f.dir then .node f.b f.a f.n f.v f.h f.s t else .node f.b f.a f.n f.v f.h t f.s

/-- A beginning that lies below a node on this side. -/
def ok (f : Fr) (x : List Int × Nat) : Prop := f.n < x.2 ∧ Al f.a x.1 f.n ∧ bitN x.1 f.n = if f.dir then 1 else 0

end Fr

/-- All of it; the node next to the place comes first. -/
def plug : List Fr → Tn → Tn
  | [], t => t
  | f :: c, t => plug c (f.put t)

/-- What lies around the place. -/
def entsC : List Fr → List (List Int × Nat × Int)
  | [] => []
  | f :: c => (if f.h then [(f.a, f.n, f.v)] else []) ++ (f.s.ents ++ entsC c)

def blksC : List Fr → List Nat
  | [] => []
  | f :: c => f.b :: (f.s.blks ++ blksC c)

/-- What a well laid trie says of a place in it. -/
theorem wf_sub {c : List Fr} {t : Tn} (h : (plug c t).wf) : t.wf ∧ ∀ f ∈ c, ∀ x ∈ t.keys, f.ok x := by
  induction c generalizing t with
  | nil => exact ⟨h, fun f hf => by cases hf⟩
  | cons f c ih =>
    obtain ⟨h1, h2⟩ := ih (t := f.put t) h
    have h2' : ∀ g ∈ c, ∀ x ∈ t.keys, g.ok x := fun g hg x hx => h2 g hg x (by
      unfold Fr.put
      cases f.dir <;> simp [Tn.keys, hx])
    unfold Fr.put at h1
    cases hd : f.dir with
    | true =>
      rw [hd, if_pos rfl] at h1
      refine ⟨h1.2.2.2.2, fun g hg => fun x hx => ?_⟩
      rcases List.mem_cons.1 hg with rfl | hg
      · unfold Fr.ok; rw [hd]; exact h1.2.2.1 x hx
      · exact h2' g hg x hx
    | false =>
      rw [hd, if_neg (by simp)] at h1
      refine ⟨h1.2.2.2.1, fun g hg => fun x hx => ?_⟩
      rcases List.mem_cons.1 hg with rfl | hg
      · unfold Fr.ok; rw [hd]; exact h1.2.1 x hx
      · exact h2' g hg x hx

/-- Something else at the place, whose beginnings lie on the way. -/
theorem wf_swap {c : List Fr} {t t' : Tn} (h : (plug c t).wf) (w' : t'.wf) (hk : ∀ x ∈ t'.keys, ∀ f ∈ c, f.ok x) : (plug c t').wf := by
  induction c generalizing t t' with
  | nil => exact w'
  | cons f c ih =>
    obtain ⟨h1, h2⟩ := wf_sub (c := c) (t := f.put t) h
    refine ih (t := f.put t) (t' := f.put t') h ?_ (fun x hx g hg => ?_)
    · unfold Fr.put at h1 ⊢
      cases hd : f.dir with
      | true =>
        rw [hd, if_pos rfl] at h1
        rw [if_pos rfl]
        refine ⟨h1.1, h1.2.1, fun x hx => ?_, h1.2.2.2.1, w'⟩
        have := hk x hx f (List.mem_cons_self ..)
        unfold Fr.ok at this; rw [hd] at this; exact this
      | false =>
        rw [hd, if_neg (by simp)] at h1
        rw [if_neg (by simp)]
        refine ⟨h1.1, fun x hx => ?_, h1.2.2.1, w', h1.2.2.2.2⟩
        have := hk x hx f (List.mem_cons_self ..)
        unfold Fr.ok at this; rw [hd] at this; exact this
    · have h3 := h2 g hg
      unfold Fr.put at hx h3
      cases hd : f.dir <;> simp only [hd, if_true, Bool.false_eq_true, if_false, Tn.keys, List.mem_cons, List.mem_append] at hx h3
      · rcases hx with rfl | hx | hx
        · exact h3 _ (Or.inl rfl)
        · exact hk x hx g (List.mem_cons_of_mem _ hg)
        · exact h3 _ (Or.inr (Or.inr hx))
      · rcases hx with rfl | hx | hx
        · exact h3 _ (Or.inl rfl)
        · exact h3 _ (Or.inr (Or.inl hx))
        · exact hk x hx g (List.mem_cons_of_mem _ hg)

theorem ents_plug (c : List Fr) (t : Tn) : ∀ e, e ∈ (plug c t).ents ↔ e ∈ entsC c ∨ e ∈ t.ents := by
  induction c generalizing t with
  | nil => intro e; simp [plug, entsC]
  | cons f c ih =>
    intro e
    rw [plug, ih, entsC]
    unfold Fr.put
    cases f.dir <;> simp [Tn.ents, or_left_comm, or_comm]

theorem ents_plug_len (c : List Fr) (t : Tn) : (plug c t).ents.length = (entsC c).length + t.ents.length := by
  induction c generalizing t with
  | nil => simp [plug, entsC]
  | cons f c ih =>
    rw [plug, ih, entsC]
    unfold Fr.put
    cases f.dir <;> simp [Tn.ents] <;> omega

theorem blks_plug (c : List Fr) (t : Tn) : (plug c t).blks.Perm (blksC c ++ t.blks) := by
  induction c generalizing t with
  | nil => simp [plug, blksC]
  | cons f c ih =>
    rw [plug, blksC]
    refine (ih (f.put t)).trans ?_
    unfold Fr.put
    cases f.dir
    · simp only [Bool.false_eq_true, if_false, Tn.blks]
      refine (List.perm_middle).trans (List.Perm.cons _ ?_)
      show (blksC c ++ (t.blks ++ f.s.blks)).Perm ((f.s.blks ++ blksC c) ++ t.blks)
      rw [← List.append_assoc, List.append_assoc f.s.blks]
      exact List.perm_append_comm
    · simp only [if_true, Tn.blks]
      refine (List.perm_middle).trans (List.Perm.cons _ ?_)
      show (blksC c ++ (f.s.blks ++ t.blks)).Perm ((f.s.blks ++ blksC c) ++ t.blks)
      rw [← List.append_assoc]
      exact List.Perm.append_right _ List.perm_append_comm

/-- No other entry is for the same bits. -/
theorem key_alone {c : List Fr} {b : Nat} {a : List Int} {n : Nat} {v : Int} {h : Bool} {l r : Tn} (hw : (plug c (.node b a n v h l r)).wf) :
    ∀ e, (e ∈ entsC c ∨ e ∈ l.ents ∨ e ∈ r.ents) → ¬ (e.2.1 = n ∧ Al e.1 a n) := by
  have h0 := wf_sub hw
  intro e he hn
  rcases he with he | he | he
  · clear h0
    have h1 : ∀ (c : List Fr) (t : Tn), (plug c t).wf → (∀ f ∈ c, f.ok (a, n)) → e ∈ entsC c → False := by
      intro c
      induction c with
      | nil => intro t _ _ he; simp [entsC] at he
      | cons f c ih =>
        intro t hw hok he
        rw [entsC, List.mem_append, List.mem_append] at he
        have hf := hok f (List.mem_cons_self ..)
        rcases he with he | he | he
        · cases hh : f.h with
          | false => rw [hh] at he; simp at he
          | true =>
            rw [hh] at he; simp at he; subst he
            have := hf.1
            simp only at this hn
            omega
        · have h2 := (wf_sub (c := c) (t := f.put t) hw).1
          have h3 := Tn.ent_key he
          have h4 := hf.2.2
          have h5 := hf.1
          simp only at h4 h5
          unfold Fr.put at h2
          cases hd : f.dir with
          | true =>
            rw [hd, if_pos rfl] at h2
            rw [hd, if_pos rfl] at h4
            have h6 := (h2.2.1 _ h3).2.2
            simp only at h6
            rw [hn.2 f.n h5, h4] at h6
            exact absurd h6 (by decide)
          | false =>
            rw [hd, if_neg (by simp)] at h2
            rw [hd, if_neg (by simp)] at h4
            have h6 := (h2.2.2.1 _ h3).2.2
            simp only at h6
            rw [hn.2 f.n h5, h4] at h6
            exact absurd h6 (by decide)
        · exact ih (f.put t) hw (fun g hg => hok g (List.mem_cons_of_mem _ hg)) he
    refine h1 c _ hw (fun f hf => ?_) he
    exact (wf_sub hw).2 f hf (a, n) (by simp [Tn.keys])
  · have := (h0.1.2.1 _ (Tn.ent_key he)).1
    simp only at this
    omega
  · have := (h0.1.2.2.1 _ (Tn.ent_key he)).1
    simp only at this
    omega

end Go.Proofs.Ytnbabdfcamdapaa
