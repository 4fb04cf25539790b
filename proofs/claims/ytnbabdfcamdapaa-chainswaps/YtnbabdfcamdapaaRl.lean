/-
  Plain facts on rules: a rule is a list of nodes, what a node takes stands ahead of it; rules as trees; what holds; plain rules.
-/
import Derived.Test.YtnbabdfcamdapaaText
import Derived.Test.YtnbabdfcamdapaaOrder
import Derived.Test.YtnbabdfcamdapaaBit
namespace Go.Proofs.Ytnbabdfcamdapaa.Ru
open Go.RowKit

/-- A node of a rule. -/
structure Mt where
  op : Int
  n : Int
  N : List ByteArray
  A : List Int
deriving DecidableEq

/-- A query. -/
structure Qy where
  N : List ByteArray
  ty : Int
  cl : Int
  opc : Int
  rd : Bool
  F : List Int

/-- How many rules a node takes. -/
def takes (op : Int) : Nat := if op = 8 then 1 else if op = 9 ∨ op = 10 then 2 else 0

/-- The greatest number that a node may have. -/
def mostN (op : Int) (l : Nat) : Int := if op = 7 then 8 * (l : Int) else if op = 5 then 15 else 65535

/-- What is wrong with a node. -/
def matchE (m : Mt) : Int :=
  if m.op < 1 ∨ 10 < m.op then 1
  else if (¬ (m.op = 3 ∨ m.op = 4 ∨ m.op = 5 ∨ m.op = 7) ∧ ¬ m.n = 0) ∨ (¬ m.op = 2 ∧ 0 < m.N.length) ∨ (¬ m.op = 7 ∧ 0 < m.A.length) then 1
  else if m.op = 2 then Nm.checkN (m.N.map Nm.bs)
  else if m.op = 7 ∧ 16 < m.A.length then 6
  else if m.n < 0 ∨ mostN m.op m.A.length < m.n then 6
  else 0

/-- Rules as trees. -/
inductive T where
  | leaf (m : Mt) : T
  | one (m : Mt) (t : T) : T
  | two (m : Mt) (a b : T) : T

def flat : T → List Mt
  | .leaf m => [m]
  | .one m t => flat t ++ [m]
  | .two m a b => flat a ++ flat b ++ [m]

def wf : T → Prop
  | .leaf m => takes m.op = 0
  | .one m t => takes m.op = 1 ∧ wf t
  | .two m a b => takes m.op = 2 ∧ wf a ∧ wf b

theorem takes_cases (op : Int) : takes op = 0 ∨ takes op = 1 ∨ takes op = 2 := by
  unfold takes
  split
  · exact Or.inr (Or.inl rfl)
  · split
    · exact Or.inr (Or.inr rfl)
    · exact Or.inl rfl

theorem flat_pos (t : T) : 0 < (flat t).length := by
  cases t with
  | leaf m => simp [flat]
  | one m t => simp [flat]
  | two m a b => simp [flat]; omega

/-- One node more: what has been read so far, the last one first. -/
def push (s : List T) (m : Mt) : Option (List T) :=
  if takes m.op = 0 then some (.leaf m :: s)
  else if takes m.op = 1 then (match s with | t :: r => some (.one m t :: r) | [] => none)
  else (match s with | b :: a :: r => some (.two m a b :: r) | _ => none)

def stackN : List T → List Mt → Option (List T)
  | s, [] => some s
  | s, m :: r => match push s m with | none => none | some s' => stackN s' r

/-- The nodes of what has been read. -/
def flats (s : List T) : List Mt := s.reverse.flatMap flat

theorem flats_cons (t : T) (s : List T) : flats (t :: s) = flats s ++ flat t := by simp [flats]

theorem push_flats {s s' : List T} {m : Mt} (h : push s m = some s') : flats s' = flats s ++ [m] := by
  unfold push at h
  split at h
  · cases h; rw [flats_cons]; rfl
  · split at h
    · split at h
      · cases h; rw [flats_cons, flats_cons, flat]; simp
      · cases h
    · split at h
      · cases h; rw [flats_cons, flats_cons, flats_cons, flat]; simp
      · cases h

theorem push_wf {s s' : List T} {m : Mt} (h : push s m = some s') (hs : ∀ t ∈ s, wf t) : ∀ t ∈ s', wf t := by
  unfold push at h
  split at h
  · rename_i h0
    cases h
    intro t ht
    rcases List.mem_cons.1 ht with rfl | ht
    · exact h0
    · exact hs t ht
  · split at h
    · rename_i h1
      split at h
      · rename_i t0 r
        cases h
        intro t ht
        rcases List.mem_cons.1 ht with rfl | ht
        · exact ⟨h1, hs _ List.mem_cons_self⟩
        · exact hs t (List.mem_cons_of_mem _ ht)
      · cases h
    · rename_i h0 h1
      split at h
      · rename_i b a r
        cases h
        intro t ht
        rcases List.mem_cons.1 ht with rfl | ht
        · refine ⟨?_, hs _ (List.mem_cons_of_mem _ List.mem_cons_self), hs _ List.mem_cons_self⟩
          rcases takes_cases m.op with q | q | q
          · exact absurd q h0
          · exact absurd q h1
          · exact q
        · exact hs t (List.mem_cons_of_mem _ (List.mem_cons_of_mem _ ht))
      · cases h

theorem stackN_flats : ∀ (r : List Mt) (s s' : List T), stackN s r = some s' → flats s' = flats s ++ r
  | [], s, s', h => by cases h; simp
  | m :: r, s, s', h => by
    unfold stackN at h
    cases hp : push s m with
    | none => rw [hp] at h; cases h
    | some s1 =>
      rw [hp] at h
      rw [stackN_flats r s1 s' h, push_flats hp]
      simp

theorem stackN_wf : ∀ (r : List Mt) (s s' : List T), stackN s r = some s' → (∀ t ∈ s, wf t) → ∀ t ∈ s', wf t
  | [], s, s', h, hs => by cases h; exact hs
  | m :: r, s, s', h, hs => by
    unfold stackN at h
    cases hp : push s m with
    | none => rw [hp] at h; cases h
    | some s1 =>
      rw [hp] at h
      exact stackN_wf r s1 s' h (push_wf hp hs)

theorem stackN_append : ∀ (r q : List Mt) (s : List T), stackN s (r ++ q) = (stackN s r).bind (fun s' => stackN s' q)
  | [], q, s => rfl
  | m :: r, q, s => by
    rw [List.cons_append, stackN, stackN]
    cases push s m with
    | none => rfl
    | some s1 => exact stackN_append r q s1

/-- A tree is read as it stands. -/
theorem stackN_flat : ∀ (t : T) (s : List T), wf t → stackN s (flat t) = some (t :: s)
  | .leaf m, s, h => by
    have h0 : takes m.op = 0 := h
    simp [flat, stackN, push, h0]
  | .one m t, s, h => by
    have h0 : takes m.op = 1 := h.1
    rw [flat, stackN_append, stackN_flat t s h.2]
    simp [stackN, push, h0]
  | .two m a b, s, h => by
    have h0 : takes m.op = 2 := h.1
    rw [flat, stackN_append, stackN_append, stackN_flat a s h.2.1]
    simp only [Option.bind_some]
    rw [stackN_flat b (a :: s) h.2.2]
    simp [stackN, push, h0]

/-- So many rules have been read, if each node had what it takes. -/
def cntN : Nat → List Mt → Option Nat
  | k, [] => some k
  | k, m :: r => if k < takes m.op then none else cntN (k + 1 - takes m.op) r

theorem push_cnt (s : List T) (m : Mt) : (push s m).map (·.length) = if s.length < takes m.op then none else some (s.length + 1 - takes m.op) := by
  unfold push
  rcases takes_cases m.op with q | q | q
  · rw [if_pos q, q]; simp
  · rw [if_neg (by omega), if_pos q, q]
    cases s with
    | nil => simp
    | cons t r => simp
  · rw [if_neg (by omega), if_neg (by omega), q]
    match s with
    | [] => simp
    | [a] => simp
    | b :: a :: r => simp

theorem stackN_cnt : ∀ (r : List Mt) (s : List T), (stackN s r).map (·.length) = cntN s.length r
  | [], s => rfl
  | m :: r, s => by
    unfold stackN cntN
    have h := push_cnt s m
    cases hp : push s m with
    | none =>
      rw [hp] at h
      by_cases q : s.length < takes m.op
      · rw [if_pos q]; rfl
      · rw [if_neg q] at h; cases h
    | some s1 =>
      rw [hp] at h
      by_cases q : s.length < takes m.op
      · rw [if_pos q] at h; cases h
      · rw [if_neg q] at h ⊢
        have e : s1.length = s.length + 1 - takes m.op := by simpa using h
        rw [← e]
        exact stackN_cnt r s1

/-- What is wrong with the first node that is wrong. -/
def firstE : List Mt → Int
  | [] => 0
  | m :: r => if ¬ matchE m = 0 then matchE m else firstE r

/-- What is wrong with a rule. -/
def ruleE (r : List Mt) : Int :=
  if 200 < r.length then 7 else if ¬ firstE r = 0 then firstE r else if cntN 0 r = some 1 then 0 else 1

/-- A rule in which nothing is wrong is a tree. -/
theorem ruleE_tree {r : List Mt} (h : ruleE r = 0) : ∃ t, flat t = r ∧ wf t := by
  unfold ruleE at h
  split at h
  · cases h
  · split at h
    · rename_i q; exact absurd h q
    · split at h
      · rename_i q
        have e := stackN_cnt r []
        rw [List.length_nil, q] at e
        cases hs : stackN [] r with
        | none => rw [hs] at e; cases e
        | some s =>
          rw [hs] at e
          have hl : s.length = 1 := by simpa using e
          match s, hl with
          | [t], _ =>
            have f := stackN_flats r [] [t] hs
            have w := stackN_wf r [] [t] hs (fun t ht => by simp at ht)
            exact ⟨t, by simpa [flats] using f, w t List.mem_cons_self⟩
      · cases h

theorem firstE_zero : ∀ {r : List Mt}, firstE r = 0 ↔ ∀ m ∈ r, matchE m = 0
  | [] => by simp [firstE]
  | m :: r => by
    unfold firstE
    by_cases q : matchE m = 0
    · rw [if_neg (by simpa using q), firstE_zero (r := r)]
      constructor
      · intro h x hx
        rcases List.mem_cons.1 hx with rfl | hx
        · exact q
        · exact h x hx
      · intro h x hx; exact h x (List.mem_cons_of_mem _ hx)
    · rw [if_pos q]
      constructor
      · intro h; exact absurd h q
      · intro h; exact h m List.mem_cons_self

theorem ruleE_of {t : T} (hw : wf t) (hl : (flat t).length ≤ 200) (hm : ∀ m ∈ flat t, matchE m = 0) : ruleE (flat t) = 0 := by
  unfold ruleE
  rw [if_neg (by omega), if_neg (by rw [firstE_zero.2 hm]; decide), if_pos]
  have e := stackN_cnt (flat t) []
  rw [stackN_flat t [] hw] at e
  exact e.symm

theorem ruleE_node {r : List Mt} (h : ruleE r = 0) : ∀ m ∈ r, matchE m = 0 := by
  unfold ruleE at h
  split at h
  · cases h
  · split at h
    · rename_i q; exact absurd h q
    · rename_i q; exact firstE_zero.1 (by simpa using q)

theorem ruleE_len {r : List Mt} (h : ruleE r = 0) : r.length ≤ 200 := by
  unfold ruleE at h
  split at h
  · cases h
  · omega

/-- The tree of a rule is one. -/
theorem flat_inj {t u : T} (ht : wf t) (hu : wf u) (h : flat t = flat u) : t = u := by
  have a := stackN_flat t [] ht
  rw [h, stackN_flat u [] hu] at a
  simpa using a.symm

/-! ### what holds -/

/-- Does a single question hold? -/
def leafEv (q : Qy) (m : Mt) : Bool :=
  if m.op = 2 then Nm.under q.N m.N
  else if m.op = 3 then decide (q.ty = m.n)
  else if m.op = 4 then decide (q.cl = m.n)
  else if m.op = 5 then decide (q.opc = m.n)
  else if m.op = 6 then q.rd
  else if m.op = 7 then decide (m.n ≤ 8 * (q.F.length : Int)) && decide (Al q.F m.A m.n.toNat)
  else true

def ev (q : Qy) : T → Bool
  | .leaf m => leafEv q m
  | .one _ t => !(ev q t)
  | .two m a b => if m.op = 9 then ev q a && ev q b else ev q a || ev q b

/-! ### plain rules -/

def notM : Mt := ⟨8, 0, [], []⟩

/-- And in the place of Or, Or in the place of And. -/
def flip (m : Mt) : Mt := if m.op = 9 then { m with op := 10 } else { m with op := 9 }

def pl : T → Bool → T
  | .leaf m, n => if n then .one notM (.leaf m) else .leaf m
  | .one _ t, n => pl t (!n)
  | .two m a b, n => .two (if n then flip m else m) (pl a n) (pl b n)

theorem two_op {m : Mt} (h : takes m.op = 2) : m.op = 9 ∨ m.op = 10 := by
  unfold takes at h
  split at h
  · cases h
  · split at h
    · assumption
    · cases h

theorem one_op {m : Mt} (h : takes m.op = 1) : m.op = 8 := by
  unfold takes at h
  split at h
  · assumption
  · split at h <;> cases h

theorem flip_op {m : Mt} (h : takes m.op = 2) : takes (flip m).op = 2 := by
  unfold flip
  rcases two_op h with q | q
  · rw [if_pos q]; rfl
  · rw [if_neg (by omega)]; rfl

theorem ev_pl (q : Qy) : ∀ (t : T) (n : Bool), wf t → ev q (pl t n) = (n ^^ ev q t)
  | .leaf m, n, h => by cases n <;> simp [pl, ev]
  | .one m t, n, h => by rw [pl, ev_pl q t (!n) h.2, ev]; cases n <;> cases ev q t <;> rfl
  | .two m a b, n, h => by
    rw [pl, ev, ev_pl q a n h.2.1, ev_pl q b n h.2.2, ev]
    cases n with
    | false => simp
    | true =>
      rcases two_op h.1 with o | o
      · have e : ¬ (if true = true then flip m else m).op = 9 := by simp [flip, o]
        rw [if_neg e, if_pos o]
        cases ev q a <;> cases ev q b <;> rfl
      · have e : (if true = true then flip m else m).op = 9 := by simp [flip, o]
        rw [if_pos e, if_neg (by omega)]
        cases ev q a <;> cases ev q b <;> rfl

theorem wf_pl : ∀ (t : T) (n : Bool), wf t → wf (pl t n)
  | .leaf m, n, h => by
    cases n
    · exact h
    · exact ⟨rfl, h⟩
  | .one m t, n, h => wf_pl t (!n) h.2
  | .two m a b, n, h => by
    refine ⟨?_, wf_pl a n h.2.1, wf_pl b n h.2.2⟩
    cases n
    · exact h.1
    · exact flip_op h.1

/-- Plain again it is as it is. -/
theorem pl_pl : ∀ (t : T) (n : Bool), pl (pl t n) false = pl t n
  | .leaf m, n => by cases n <;> simp [pl]
  | .one m t, n => pl_pl t (!n)
  | .two m a b, n => by simp [pl, pl_pl a n, pl_pl b n]

theorem flip_matchE {m : Mt} (h : takes m.op = 2) (k : matchE m = 0) : matchE (flip m) = 0 := by
  have key : ∀ (o o' n : Int) (N : List ByteArray) (A : List Int), (o = 9 ∨ o = 10) → (o' = 9 ∨ o' = 10) → matchE ⟨o, n, N, A⟩ = 0 → matchE ⟨o', n, N, A⟩ = 0 := by
    intro o o' n N A h1 h2 h3
    unfold matchE at h3 ⊢
    simp only at h3 ⊢
    rw [if_neg (by omega)] at h3 ⊢
    by_cases q : (¬ (o = 3 ∨ o = 4 ∨ o = 5 ∨ o = 7) ∧ ¬ n = 0) ∨ (¬ o = 2 ∧ 0 < N.length) ∨ (¬ o = 7 ∧ 0 < A.length)
    · rw [if_pos q] at h3; cases h3
    · have h4 : n = 0 ∧ N.length = 0 ∧ A.length = 0 := by omega
      obtain ⟨rfl, h5, h6⟩ := h4
      have e : mostN o' A.length = 65535 := by unfold mostN; rw [if_neg (by omega), if_neg (by omega)]
      rw [if_neg (by omega), if_neg (by omega), if_neg (by omega), e, if_neg (by omega)]
  obtain ⟨o, n, N, A⟩ := m
  unfold flip
  simp only
  rcases two_op h with q | q
  · simp only at q; rw [if_pos q]; exact key o 10 n N A (Or.inl q) (Or.inr rfl) k
  · simp only at q; rw [if_neg (by omega)]; exact key o 9 n N A (Or.inr q) (Or.inl rfl) k

theorem pl_nodes : ∀ (t : T) (n : Bool), wf t → (∀ m ∈ flat t, matchE m = 0) → ∀ m ∈ flat (pl t n), matchE m = 0
  | .leaf m, n, _, h => by
    cases n
    · exact h
    · intro x hx
      simp only [pl, flat, if_true, List.mem_append, List.mem_singleton] at hx
      rcases hx with rfl | rfl
      · exact h x (by simp [flat])
      · rfl
  | .one m t, n, hw, h => pl_nodes t (!n) hw.2 (fun x hx => h x (by simp [flat, hx]))
  | .two m a b, n, hw, h => by
    intro x hx
    simp only [pl, flat, List.mem_append, List.mem_singleton] at hx
    rcases hx with (hx | hx) | rfl
    · exact pl_nodes a n hw.2.1 (fun y hy => h y (by simp [flat, hy])) x hx
    · exact pl_nodes b n hw.2.2 (fun y hy => h y (by simp [flat, hy])) x hx
    · cases n
      · exact h _ (by simp [flat])
      · exact flip_matchE hw.1 (h m (by simp [flat]))

/-- In it Not takes single questions alone. -/
theorem pl_not (t : T) (n : Bool) (hw : wf t) : ∀ i (h : i + 1 < (flat (pl t n)).length), (flat (pl t n))[i + 1].op = 8 → takes (flat (pl t n))[i].op = 0 := by
  have key : ∀ (t : T) (n : Bool), wf t → ∀ i a b, (flat (pl t n))[i]? = some a → (flat (pl t n))[i + 1]? = some b → b.op = 8 → takes a.op = 0 := by
    intro t
    induction t with
    | leaf m =>
      intro n hw i a b ha hb ho
      cases n with
      | false =>
        exfalso
        simp [pl, flat] at hb
      | true =>
        simp only [pl, flat, if_true, List.cons_append, List.nil_append] at ha hb
        cases i with
        | zero => simp at ha; rw [← ha]; exact hw
        | succ i => cases i <;> simp at hb
    | one m t ih => intro n hw; exact ih (!n) hw.2
    | two m u v iu iv =>
      intro n hw i a b ha hb ho
      simp only [pl, flat] at ha hb
      have hl := flat_pos (pl u n)
      have hl2 := flat_pos (pl v n)
      by_cases c1 : i + 1 < (flat (pl u n)).length
      · rw [List.append_assoc, List.getElem?_append_left (by omega)] at ha
        rw [List.append_assoc, List.getElem?_append_left c1] at hb
        exact iu n hw.2.1 i a b ha hb ho
      · by_cases c2 : i + 1 < (flat (pl u n)).length + (flat (pl v n)).length
        · by_cases c3 : i < (flat (pl u n)).length
          · -- the first node of the second rule: no Not stands first
            exfalso
            have hb' : (flat (pl v n))[0]? = some b := by
              rw [List.append_assoc, List.getElem?_append_right (by omega)] at hb
              rw [List.getElem?_append_left (by omega)] at hb
              rwa [show i + 1 - (flat (pl u n)).length = 0 by omega] at hb
            have hf : ∀ (t : T), wf t → ∀ b, (flat t)[0]? = some b → takes b.op = 0 := by
              intro t
              induction t with
              | leaf m => intro h b hb; simp [flat] at hb; rw [← hb]; exact h
              | one m t ih =>
                intro h b hb
                rw [flat, List.getElem?_append_left (flat_pos t)] at hb
                exact ih h.2 b hb
              | two m x y ix iy =>
                intro h b hb
                rw [flat, List.append_assoc, List.getElem?_append_left (flat_pos x)] at hb
                exact ix h.2.1 b hb
            have := hf (pl v n) (wf_pl v n hw.2.2) b hb'
            rw [ho] at this
            cases this
          · rw [List.append_assoc, List.getElem?_append_right (by omega), List.getElem?_append_left (by omega)] at ha
            rw [List.append_assoc, List.getElem?_append_right (by omega), List.getElem?_append_left (by omega)] at hb
            rw [show i + 1 - (flat (pl u n)).length = (i - (flat (pl u n)).length) + 1 by omega] at hb
            exact iv n hw.2.2 _ a b ha hb ho
        · exfalso
          rw [List.getElem?_append_right (by simp; omega)] at hb
          have hz : i + 1 - (flat (pl u n) ++ flat (pl v n)).length = 0 ∨ 0 < i + 1 - (flat (pl u n) ++ flat (pl v n)).length := by omega
          rcases hz with q | q
          · rw [q] at hb
            simp only [List.getElem?_cons_zero, Option.some.injEq] at hb
            have hm := hw.1
            rw [← hb] at ho
            cases n with
            | false =>
              have ho' : m.op = 8 := ho
              rw [ho'] at hm; cases hm
            | true =>
              have ho' : (flip m).op = 8 := ho
              have := flip_op hm
              rw [ho'] at this; cases this
          · rw [List.getElem?_eq_none (by simp only [List.length_singleton]; omega)] at hb; cases hb
  intro i h ho
  exact key t n hw i _ _ (List.getElem?_eq_getElem (by omega)) (List.getElem?_eq_getElem h) ho

theorem pl_len : ∀ (t : T) (n : Bool), (flat (pl t n)).length ≤ 2 * (flat t).length
  | .leaf m, n => by cases n <;> simp [pl, flat]
  | .one m t, n => by
    have h := pl_len t (!n)
    rw [pl, flat, List.length_append]
    omega
  | .two m a b, n => by
    have h1 := pl_len a n
    have h2 := pl_len b n
    simp only [pl, flat, List.length_append, List.length_singleton]
    omega

/-! ### what two say -/

theorem joins {t u : T} (ht : wf t) (hu : wf u) (m : Mt) (hm : takes m.op = 2) : flat (.two m t u) = flat t ++ flat u ++ [m] ∧ wf (.two m t u) := ⟨rfl, hm, ht, hu⟩

end Go.Proofs.Ytnbabdfcamdapaa.Ru
