/-
  The walks of slices.Equal at texts, of endsWith and of look: at which starts a name is read, and how many of the last labels of a name stand at one of them.
-/
import Derived.Test.YtnbabdfcamdapaaMsgInts
import Derived.Test.YtnbabdfcamdapaaMsgAt
namespace Go.Proofs.Ytnbabdfcamdapaa
open Go.RowKit Go.Deep

theorem strs_drop {w : World} {b off c : Nat} {ss : List ByteArray} (h : Strs w (some ⟨b, off, none⟩) c ss) (k : Nat) (hk : k ≤ ss.length) : Strs w (some ⟨b, off + k, none⟩) (c - k) (ss.drop k) := by
  obtain ⟨h1, h2, h3, h4⟩ := h
  refine ⟨by rw [List.length_drop]; omega, by rw [List.length_drop]; omega, fun s hs => h3 s (List.mem_of_mem_drop hs), ?_⟩
  rcases h4 with h4 | ⟨b', off', hx, hb, hc⟩
  · left; rw [h4]; simp
  · cases hx
    refine Or.inr ⟨b, off + k, rfl, hb, fun i hi => ?_⟩
    rw [List.length_drop] at hi
    have := hc (k + i) (by omega)
    rw [← Nat.add_assoc] at this
    rw [this, List.getD_eq_getElem?_getD, List.getD_eq_getElem?_getD, List.getElem?_drop]

/-- Does a name end with these labels? -/
def endsN (n e : List ByteArray) : Bool := decide (e.length ≤ n.length ∧ n.drop (n.length - e.length) = e)

/-! ### look -/

/-- One start more. -/
def lookStep (ms : List Int) (n : List ByteArray) (s : List Int × Nat × Int) (st : Int) : List Int × Nat × Int :=
  if (readW ms st).1 = 0 then
    (s.1 ++ [st], if st ≤ 16383 ∧ s.2.1 < (readW ms st).2.1.length ∧ endsN n ((readW ms st).2.1.map strOfNums) = true then ((readW ms st).2.1.length, st) else s.2)
  else s

def lookN (ms : List Int) (n : List ByteArray) (starts : List Int) : List Int × Nat × Int := starts.foldl (lookStep ms n) ([], 0, 0)

theorem look_next (ms : List Int) (n : List ByteArray) (starts : List Int) (k : Nat) (hk : k < starts.length) : lookN ms n (starts.take (k + 1)) = lookStep ms n (lookN ms n (starts.take k)) (starts.getD k 0) := by
  unfold lookN
  rw [List.take_succ_eq_append_getElem hk, List.foldl_append, List.getD_eq_getElem?_getD, List.getElem?_eq_getElem hk]
  rfl

/-- What holds of all that look has gathered. -/
def Looked (ms : List Int) (n : List ByteArray) (s : List Int × Nat × Int) : Prop :=
  (∀ z ∈ s.1, (readW ms z).1 = 0) ∧ s.2.1 ≤ n.length ∧ (s.2.1 = 0 → s.2.2 = 0) ∧ (¬ s.2.1 = 0 → 0 ≤ s.2.2 ∧ s.2.2 ≤ 16383 ∧ ∃ e, readW ms s.2.2 = (0, (n.map Nm.bs).drop (n.length - s.2.1), e))

theorem looked_step {ms : List Int} {n : List ByteArray} {s : List Int × Nat × Int} (hb : ∀ b ∈ ms, 0 ≤ b ∧ b ≤ 255) (h : Looked ms n s) (st : Int) : Looked ms n (lookStep ms n s st) := by
  obtain ⟨h1, h2, h3, h4⟩ := h
  unfold lookStep
  by_cases c : (readW ms st).1 = 0
  · rw [if_pos c]
    have e1 : ∀ z ∈ s.1 ++ [st], (readW ms z).1 = 0 := by
      intro z hz
      rcases List.mem_append.1 hz with q | q
      · exact h1 z q
      · rw [List.mem_singleton.1 q]; exact c
    by_cases d : st ≤ 16383 ∧ s.2.1 < (readW ms st).2.1.length ∧ endsN n ((readW ms st).2.1.map strOfNums) = true
    · rw [if_pos d]
      obtain ⟨d1, d2, d3⟩ := d
      have r : readW ms st = (0, (readW ms st).2.1, (readW ms st).2.2) := by rw [← c]
      obtain ⟨m0, m1, m2, m3, m4⟩ := readW_may hb r
      unfold endsN at d3
      have d3 := of_decide_eq_true d3
      rw [List.length_map] at d3
      obtain ⟨d4, d5⟩ := d3
      refine ⟨e1, d4, fun q => by simp only at q; omega, fun _ => ⟨m0, d1, (readW ms st).2.2, ?_⟩⟩
      have d6 := congrArg (List.map Nm.bs) d5
      rw [map_bs_of _ m4, List.map_drop] at d6
      rw [d6]
      exact r
    · rw [if_neg d]
      exact ⟨e1, h2, h3, h4⟩
  · rw [if_neg c]
    exact ⟨h1, h2, h3, h4⟩

theorem looked_all {ms : List Int} {n : List ByteArray} (hb : ∀ b ∈ ms, 0 ≤ b ∧ b ≤ 255) (starts : List Int) : ∀ s, Looked ms n s → Looked ms n (starts.foldl (lookStep ms n) s) := by
  induction starts with
  | nil => intro s h; exact h
  | cons st l ih => intro s h; exact ih _ (looked_step hb h st)

theorem looked (ms : List Int) (n : List ByteArray) (hb : ∀ b ∈ ms, 0 ≤ b ∧ b ≤ 255) (starts : List Int) : Looked ms n (lookN ms n starts) :=
  looked_all hb starts _ ⟨by simp, by simp, fun _ => rfl, fun q => absurd rfl q⟩

theorem look_len (ms : List Int) (n : List ByteArray) (starts : List Int) : ∀ s : List Int × Nat × Int, (starts.foldl (lookStep ms n) s).1.length ≤ s.1.length + starts.length := by
  induction starts with
  | nil => intro s; simp
  | cons st l ih =>
    intro s
    rw [List.foldl_cons]
    have := ih (lookStep ms n s st)
    have k : (lookStep ms n s st).1.length ≤ s.1.length + 1 := by
      unfold lookStep
      split
      · simp
      · omega
    rw [List.length_cons]; omega

theorem lookN_len (ms : List Int) (n : List ByteArray) (starts : List Int) : (lookN ms n starts).1.length ≤ starts.length := by
  have := look_len ms n starts ([], 0, 0)
  unfold lookN
  simpa using this

/-- Where all starts are read, all are told. -/
theorem look_keeps (ms : List Int) (n : List ByteArray) (starts : List Int) : ∀ s : List Int × Nat × Int, (∀ z ∈ starts, (readW ms z).1 = 0) → (starts.foldl (lookStep ms n) s).1 = s.1 ++ starts := by
  induction starts with
  | nil => intro s _; simp
  | cons st l ih =>
    intro s h
    rw [List.foldl_cons, ih _ (fun z hz => h z (by simp [hz]))]
    unfold lookStep
    rw [if_pos (h st (by simp))]
    simp

theorem lookN_keeps {ms : List Int} {n : List ByteArray} {starts : List Int} (h : ∀ z ∈ starts, (readW ms z).1 = 0) : (lookN ms n starts).1 = starts := by
  unfold lookN
  rw [look_keeps ms n starts _ h]; rfl

/-- A slice of numbers of the call's own. -/
def Rowi (w : World) (B : Nat) (v : Value) (xs : List Int) : Prop := w.ownsRow B 3 1 v xs.length (xs.map (Value.int .i64))

theorem Rowi.of {w : World} {B n : Nat} {v : Value} {xs : List Int} {ys : List Value} (h : w.ownsRow B 3 1 v n ys) (hn : n = xs.length) (hy : ys = xs.map (Value.int .i64)) : Rowi w B v xs := by
  subst hn hy; exact h

theorem info_int : (Try.prog.info? 3).map (fun i => (i.zero, i.size, i.bytes)) = some (some (.int .i64 0), 1, 8) := by kernel_rfl

theorem info_of_int : ∃ i, Try.prog.info? 3 = some i ∧ i.zero = some (.int .i64 0) ∧ i.size = 1 ∧ i.bytes = 8 := info_parts info_int

theorem one_ints (xs : List Int) : ∀ u ∈ xs.map (Value.int .i64), u.oneCell' = true := by
  intro u hu
  obtain ⟨n, _, rfl⟩ := List.mem_map.1 hu
  rfl

theorem owns_kept {w w' : World} {B e n : Nat} {v : Value} {xs : List Value} (h : w.ownsRow B e 1 v n xs) (k : Below w.heap.size w w') : w'.ownsRow B e 1 v n xs := by
  have g : w.grownBy w' none := ⟨k.os, k.tape, k.output, k.size, fun j hj _ => k.block j hj⟩
  refine World.ownsRow.kept h g ?_
  cases v.ownBlock
  · exact Or.inl rfl
  · right; intro q; cases q

theorem look_bad {ms : List Int} {n : List ByteArray} {s : List Int × Nat × Int} {st k : Int} {L : List (List Int)} {m : Nat} (h : readW ms st = (k, L, m)) (hk : ¬ k = 0) : lookStep ms n s st = s := by
  unfold lookStep; rw [h, if_neg hk]
theorem look_far {ms : List Int} {n : List ByteArray} {s : List Int × Nat × Int} {st : Int} {L : List (List Int)} {m : Nat} (h : readW ms st = (0, L, m)) (hk : ¬ (st ≤ 16383 ∧ s.2.1 < L.length ∧ endsN n (L.map strOfNums) = true)) : lookStep ms n s st = (s.1 ++ [st], s.2) := by
  unfold lookStep; rw [h, if_pos rfl, if_neg hk]
theorem look_here {ms : List Int} {n : List ByteArray} {s : List Int × Nat × Int} {st : Int} {L : List (List Int)} {m : Nat} (h : readW ms st = (0, L, m)) (hk : st ≤ 16383 ∧ s.2.1 < L.length ∧ endsN n (L.map strOfNums) = true) : lookStep ms n s st = (s.1 ++ [st], L.length, st) := by
  unfold lookStep; rw [h, if_pos rfl, if_pos hk]

end Go.Proofs.Ytnbabdfcamdapaa
