/-
  A list of names among the arguments, in memory, and how it is opened.
-/
import Derived.Test.YtclkhegdbikcoaaDoorRow
namespace Go.Proofs.YtclkhegdbikcoaaDoor.Tl
open Go.ChangeShapes Go.WideShapes Go.ChangeAt Go.RowKit Go.Deep

/-- A slice of labels: where it leads, its labels. -/
structure Sv where
  x : Option Addr
  c : Nat
  n : List ByteArray

instance : Inhabited Sv := ⟨⟨none, 0, []⟩⟩

def Sv.v (e : Sv) : Value := .slice e.x e.n.length e.c

/-- The labels lie there. -/
def Sv.in (w : World) (e : Sv) : Prop := Strs w e.x e.c e.n

theorem Sv.in.below {w w' : World} {e : Sv} (h : e.in w) (k : Below w.heap.size w w') : e.in w' := Strs.below h k

/-- A slice of slices of labels. -/
def Strss (w : World) (x : Option Addr) (c : Nat) (L : List Sv) : Prop :=
  L.length ≤ c ∧ L.length ≤ 6000000000000 ∧ (∀ e ∈ L, e.in w) ∧ (L = [] ∨ ∃ b off, x = some ⟨b, off, none⟩ ∧ b < w.heap.size ∧ ∀ i (h : i < L.length), w.cell? ⟨b, off + i, none⟩ = some (L[i]).v)

theorem Strss.below {w w' : World} {x : Option Addr} {c : Nat} {L : List Sv} (h : Strss w x c L) (k : Below w.heap.size w w') : Strss w' x c L := by
  obtain ⟨h1, h2, h3, h4⟩ := h
  refine ⟨h1, h2, fun e he => (h3 e he).below k, ?_⟩
  rcases h4 with h4 | ⟨b, off, hx, hb, hc⟩
  · exact Or.inl h4
  · exact Or.inr ⟨b, off, hx, Nat.lt_of_lt_of_le hb k.size, fun i hi => by rw [k.cell (p := ⟨b, off + i, none⟩) hb]; exact hc i hi⟩

theorem tl_weights_at {H : Type} {P : Program} {e : TypeId} (L : List (DataW H)) (i : Nat) (d : DataW H) (hi : L[i]? = some d) : ∀ n ∈ d.weights P e, n ∈ DataW.weightsAll P e L := by
  induction L generalizing i with
  | nil => simp at hi
  | cons d' l ih =>
    intro n hn
    simp only [DataW.weightsAll, List.mem_append]
    cases i with
    | zero => simp only [List.getElem?_cons_zero, Option.some.injEq] at hi; subst hi; left; exact hn
    | succ j => right; exact ih j (by simpa using hi) n hn

theorem tl_list_of {α : Type} {P : Nat → α → Prop} : ∀ n : Nat, (∀ i, i < n → ∃ x, P i x) → ∃ l : List α, l.length = n ∧ ∀ i (h : i < l.length), P i l[i] := by
  intro n
  induction n with
  | zero => intro _; exact ⟨[], rfl, fun i h => by simp at h⟩
  | succ n ih =>
    intro h
    obtain ⟨l, hl, hp⟩ := ih fun i hi => h i (by omega)
    obtain ⟨x, hx⟩ := h n (by omega)
    refine ⟨l ++ [x], by simp [hl], fun i hi => ?_⟩
    rw [List.length_append, List.length_singleton] at hi
    by_cases c : i < l.length
    · rw [List.getElem_append_left c]; exact hp i c
    · have e : i = n := by omega
      subst e
      rw [List.getElem_append_right (by omega)]
      simpa [hl] using hx

theorem tl_cells_strings : Tryd.prog.cellsOf 28 = 1 := by kernel_rfl

theorem tl_strings_bytes : Tryd.prog.bytesOf 28 = 24 := by kernel_rfl

theorem tl_slice_cell {H : Type} {enc : TypeId × Value → H} {W : World} {t e : TypeId} {fuel : Nat} {a : Value} {x : DataW H × List MemPlace} (ht : Tryd.prog.underlying t = some (.slice e)) (h : DataW.trod enc Tryd.prog W 0 (fun _ => true) true fuel t [a] = some x) : ∃ y n q, a = .slice y n q := by
  rcases DataW.trod_slice ht h with ⟨hc, _⟩ | ⟨ad, len, cap, _, _, _, _, hc, _⟩
  · simp at hc; exact ⟨_, _, _, hc⟩
  · simp at hc; exact ⟨_, _, _, hc⟩

theorem stringslist_of {H : Type} {enc : TypeId × Value → H} {W : World} {x : Option Addr} {len cap fuel : Nat} {d : DataW H} {p : List MemPlace}
    (hf : DataW.trod enc Tryd.prog W 0 (fun _ => true) true fuel 22 [Value.slice x len cap] = some (d, p)) (hz : ∀ n ∈ d.weights Tryd.prog 22, n ≤ reachBytes) :
    ∃ L : List Sv, L.length = len ∧ Strss W x cap L := by
  rcases DataW.trod_slice Tryd.underlying22 hf with ⟨hc, hd⟩ | ⟨a, l, c, elems, rest, n, _, hc, hd, _, hlc, _, hel, hE, hR, _⟩
  · simp only [List.cons.injEq, Value.slice.injEq, and_true] at hc
    obtain ⟨rfl, rfl, rfl⟩ := hc
    exact ⟨[], rfl, Nat.zero_le _, by simp, fun e he => (by cases he), Or.inl rfl⟩
  · simp only [List.cons.injEq, Value.slice.injEq, and_true] at hc
    obtain ⟨rfl, rfl, rfl⟩ := hc
    simp only [Prod.mk.injEq] at hd
    obtain ⟨rfl, _⟩ := hd
    have hr : reachBytes = 140737488351232 := by decide
    have hw : (len + rest.length) * 24 ≤ reachBytes := by
      refine hz _ ?_
      simp only [DataW.weights, Tryd.underlying22, tl_strings_bytes, List.length_map, hel]
      exact List.mem_cons_self
    rw [tl_cells_strings] at hE
    have hall : ∀ i, i < len → ∃ e : Sv, W.cell? ((a.add (i * 1)).add 0) = some e.v ∧ e.in W := by
      intro i hi
      have h1 := hE i hi
      have he : elems[i]? = some elems[i] := List.getElem?_eq_getElem (by omega)
      rw [he] at h1
      cases hcs : W.cells? 0 (a.add (i * 1)) 1 with
      | none => rw [hcs] at h1; cases h1
      | some cs =>
        rw [hcs] at h1
        have h2 : DataW.trod enc Tryd.prog W 0 (fun _ => true) true n 28 cs = some (elems[i].1, elems[i].2) := h1
        have hc3 := World.cells?_some hcs
        obtain ⟨a0, rfl⟩ : ∃ a0, cs = [a0] := by
          have := hc3.1
          match cs, this with
          | [a0], _ => exact ⟨a0, rfl⟩
        obtain ⟨s0, s1, s2, rfl⟩ := tl_slice_cell Tryd.underlying28 h2
        obtain ⟨A, hA, hB⟩ := strs_of h2 (fun m hm => hz m (by
          simp only [DataW.weights, Tryd.underlying22]
          refine List.mem_cons_of_mem _ (List.mem_append_left _ (tl_weights_at _ i elems[i].1 ?_ m hm))
          rw [List.getElem?_map, he]
          rfl))
        subst hA
        exact ⟨⟨s0, s2, A⟩, hc3.2.2 0 (by decide), hB⟩
    obtain ⟨L, hL, hp⟩ := tl_list_of len hall
    refine ⟨L, hL, by omega, by omega, fun e he => ?_, ?_⟩
    · obtain ⟨i, hi, rfl⟩ := List.mem_iff_getElem.1 he
      exact (hp i hi).2
    · rcases Nat.eq_zero_or_pos len with h0 | h0
      · left; exact List.length_eq_zero_iff.1 (by omega)
      · right
        obtain ⟨b, off, spot⟩ := a
        obtain ⟨k1, _⟩ := hp 0 (by omega)
        have hspot : spot = none := by simpa [Addr.add] using World.cell?_spot k1
        subst hspot
        refine ⟨b, off, rfl, ?_, fun i hi => ?_⟩
        · simpa [Addr.add] using lt_of_cell k1
        · obtain ⟨k1, _⟩ := hp i hi
          simpa only [add_plain, Nat.add_zero, Nat.mul_one] using k1

end Go.Proofs.YtclkhegdbikcoaaDoor.Tl
