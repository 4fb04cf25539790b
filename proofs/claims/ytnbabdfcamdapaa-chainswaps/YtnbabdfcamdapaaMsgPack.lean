/-
  The walk of Pack: a message with a name behind it, with a pointer for its last labels where they stand in it; in new memory, nothing that was there is written.
-/
import Derived.Test.YtnbabdfcamdapaaMsgLooks
namespace Go.Proofs.Ytnbabdfcamdapaa
open Go.RowKit Go.Deep

/-- The places of the first labels, as far as a pointer can lead there. -/
def placesN (len : Nat) (nb : List (List Int)) (k : Nat) : List Int :=
  (List.range k).filterMap fun i => if len + Nm.total (nb.take i) ≤ 16383 then some ((len + Nm.total (nb.take i) : Nat) : Int) else none

theorem places_yes (len : Nat) (nb : List (List Int)) (k : Nat) (h : len + Nm.total (nb.take k) ≤ 16383) : placesN len nb (k + 1) = placesN len nb k ++ [((len + Nm.total (nb.take k) : Nat) : Int)] := by
  unfold placesN
  rw [List.range_succ, List.filterMap_append, List.filterMap_cons, if_pos h]
  rfl

theorem places_no (len : Nat) (nb : List (List Int)) (k : Nat) (h : ¬ len + Nm.total (nb.take k) ≤ 16383) : placesN len nb (k + 1) = placesN len nb k := by
  unfold placesN
  rw [List.range_succ, List.filterMap_append, List.filterMap_cons, if_neg h]
  simp

theorem places_len (len : Nat) (nb : List (List Int)) (k : Nat) : (placesN len nb k).length ≤ k := by
  unfold placesN
  exact Nat.le_trans (List.length_filterMap_le _ _) (by simp)

theorem places_bound (len : Nat) (nb : List (List Int)) (k : Nat) : ∀ z ∈ placesN len nb k, 0 ≤ z ∧ z ≤ 16383 := by
  intro z hz
  unfold placesN at hz
  obtain ⟨i, _, hi⟩ := List.mem_filterMap.1 hz
  by_cases c : len + Nm.total (nb.take i) ≤ 16383
  · rw [if_pos c] at hi
    cases hi; omega
  · rw [if_neg c] at hi; cases hi

/-- The pointer, or the end. -/
def tailN (count : Nat) (to : Int) : List Int := if count = 0 then [0] else [192 + to / 256, to % 256]

def packOut (ms : List Int) (n : List ByteArray) (starts : List Int) : List Int :=
  ms ++ Nm.sentL ((n.map Nm.bs).take (n.length - (lookN ms n starts).2.1)) ++ tailN (lookN ms n starts).2.1 (lookN ms n starts).2.2

def packTold (ms : List Int) (n : List ByteArray) (starts : List Int) : List Int :=
  (lookN ms n starts).1 ++ placesN ms.length (n.map Nm.bs) (n.length - (lookN ms n starts).2.1)

theorem look_mem (ms : List Int) (n : List ByteArray) (starts : List Int) : ∀ s : List Int × Nat × Int, ∀ z ∈ (starts.foldl (lookStep ms n) s).1, z ∈ s.1 ∨ z ∈ starts := by
  induction starts with
  | nil => intro s z hz; exact Or.inl hz
  | cons st l ih =>
    intro s z hz
    rw [List.foldl_cons] at hz
    rcases ih _ z hz with q | q
    · unfold lookStep at q
      split at q
      · rcases List.mem_append.1 q with q | q
        · exact Or.inl q
        · right; rw [List.mem_singleton.1 q]; simp
      · exact Or.inl q
    · right; simp [q]

theorem lookN_mem {ms : List Int} {n : List ByteArray} {starts : List Int} {z : Int} (h : z ∈ (lookN ms n starts).1) : z ∈ starts := by
  rcases look_mem ms n starts _ z h with q | q
  · simp at q
  · exact q

theorem owns_base {w : World} {B B' e n : Nat} {v : Value} {xs : List Value} (h : w.ownsRow B e 1 v n xs) (k : B' ≤ B) : w.ownsRow B' e 1 v n xs := by
  obtain ⟨h1, h2⟩ := h
  refine ⟨h1, ?_⟩
  rcases h2 with q | ⟨g, cap, cur, hv, hb, r⟩
  · exact Or.inl q
  · exact Or.inr ⟨g, cap, cur, hv, by omega, r⟩

theorem rowi_ints {w : World} {B : Nat} {v : Value} {xs : List Int} (h : Rowi w B v xs) (hl : xs.length ≤ 17592186044416) (hb : ∀ z ∈ xs, -9223372036854775808 ≤ z ∧ z ≤ 9223372036854775807) :
    ∃ x c, v = .slice x xs.length c ∧ Ints w x c xs := by
  obtain ⟨_, h3⟩ := h
  rcases h3 with ⟨rfl, h4⟩ | ⟨g, cap, cur, rfl, _, hh, hn, _, hs, ht⟩
  · have : xs = [] := List.length_eq_zero_iff.1 h4
    subst this
    exact ⟨none, 0, rfl, Ints.nil w none 0⟩
  · refine ⟨_, cap, rfl, hn, hl, hb, Or.inr ⟨g, 0, rfl, ?_, fun i hi => ?_⟩⟩
    · rcases Nat.lt_or_ge g w.heap.size with q | q
      · exact q
      · rw [Array.getElem?_eq_none q] at hh; simp at hh
    · rw [Nat.zero_add]
      simp only [World.cell?, hh]
      have e : (cur.toList.take (xs.length * 1))[i]? = (xs.map (Value.int .i64))[i]? := by rw [ht]
      rw [List.getElem?_take, if_pos (by omega), List.getElem?_map, List.getElem?_eq_getElem hi] at e
      simp [List.getD_eq_getElem?_getD, List.getElem?_eq_getElem hi]
      simpa using e

theorem or192 (y : Int) (h0 : 0 ≤ y) (h1 : y ≤ 63) : bits .or .u8 192 y = 192 + y :=
  bits_join .u8 8 (by decide) wraps_u8 6 192 y (by decide) (by decide) (by decide) h0 (by omega) (by omega)

def PackPost (out told : List Int) (w : World) (e : Ending) (w' : World) : Prop :=
  ∃ x c y d, e = .returned (.tuple #[.slice x out.length c, .slice y told.length d, .nilIface]) ∧ Bys w' x c out ∧ Ints w' y d told ∧ Below w.heap.size w w'

/-- The same, with the rows that the call owns. -/
def PackOwn (out told : List Int) (w : World) (e : Ending) (w' : World) : Prop :=
  ∃ v u, e = .returned (.tuple #[v, u, .nilIface]) ∧ Rowb w' w.heap.size v out ∧ Rowi w' w.heap.size u told ∧ Below w.heap.size w w' ∧
    out.length ≤ 140737488355328 ∧ (∀ b ∈ out, 0 ≤ b ∧ b ≤ 255) ∧ told.length ≤ 17592186044416 ∧ (∀ z ∈ told, -9223372036854775808 ≤ z ∧ z ≤ 9223372036854775807)

theorem packOwn_of {out told xs : List Int} {w w' : World} {v u : Value} {m : Nat} {ys : List Value} (h : w'.ownsRow w.heap.size 5 1 v m ys) (hm : m = xs.length) (hy : ys = xs.map (Value.int .u8)) (hx : xs = out) (hl : xs.length ≤ 140737488355328) (hb : ∀ b ∈ out, 0 ≤ b ∧ b ≤ 255)
    (k : Rowi w' w.heap.size u told) (kl : told.length ≤ 17592186044416) (kb : ∀ z ∈ told, -9223372036854775808 ≤ z ∧ z ≤ 9223372036854775807) (bel : Below w.heap.size w w') : PackOwn out told w (.returned (.tuple #[v, u, .nilIface])) w' := by
  subst hx
  exact ⟨v, u, rfl, Rowb.of h hm hy, k, bel, hl, hb, kl, kb⟩

theorem packPost_own {out told : List Int} {w w' : World} {e : Ending} (h : PackOwn out told w e w') : PackPost out told w e w' := by
  obtain ⟨v, u, rfl, h, k, bel, hl, hb, kl, kb⟩ := h
  obtain ⟨x, c, rfl, hs⟩ := rowb_bys h (by omega) hb
  obtain ⟨y, d, rfl, hs2⟩ := rowi_ints k kl kb
  exact ⟨x, c, y, d, rfl, hs, hs2, bel⟩

theorem total_take_le (n : List ByteArray) (k : Nat) (h : Nm.checkN (n.map Nm.bs) = 0) : Nm.total ((n.map Nm.bs).take k) ≤ 254 :=
  Nat.le_trans (flat_take_len _ k) (check_zero h).2

theorem check_len {L : List (List Int)} (h : Nm.checkN L = 0) : L.length ≤ 254 := by
  have h1 := (check_zero h).2
  have h2 : L.length ≤ Nm.total L := by
    clear h h1
    induction L with
    | nil => simp
    | cons a l ih => rw [Nm.total_cons, List.length_cons]; omega
  omega

theorem pack_bytes {ms : List Int} {n : List ByteArray} {k count : Nat} {to : Int} (hb : ∀ b ∈ ms, 0 ≤ b ∧ b ≤ 255) (h : Nm.checkN (n.map Nm.bs) = 0) (ht : ¬ count = 0 → 0 ≤ to ∧ to ≤ 16383) : ∀ b ∈ ms ++ Nm.sentL ((n.map Nm.bs).take k) ++ tailN count to, 0 ≤ b ∧ b ≤ 255 := by
  intro b q
  rcases List.mem_append.1 q with q | q
  · rcases List.mem_append.1 q with q | q
    · exact hb b q
    · refine sent_bytes _ ?_ (fun l hl x hx => ?_) b q
      · rw [List.all_eq_true]
        intro l hl
        exact List.all_eq_true.1 (check_zero h).1 l (List.mem_of_mem_take hl)
      · obtain ⟨s, _, rfl⟩ := List.mem_map.1 (List.mem_of_mem_take hl)
        exact bs_bound s x hx
  · unfold tailN at q
    by_cases c : count = 0
    · rw [if_pos c] at q
      rw [List.mem_singleton.1 q]; omega
    · rw [if_neg c] at q
      have := ht c
      simp at q
      omega

end Go.Proofs.Ytnbabdfcamdapaa
