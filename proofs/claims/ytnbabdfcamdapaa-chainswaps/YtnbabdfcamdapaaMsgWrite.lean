/-
  The walks of Clone, appendLabel and Write: a message with a name behind it, in new memory; nothing that was there is written.
-/
import Derived.Test.YtnbabdfcamdapaaMsgRead
import Derived.Lib.AppendStr
import Derived.Lib.SliceRun
namespace Go.Proofs.Ytnbabdfcamdapaa
open Go.RowKit Go.Deep

/-- The rows of numbers that the call owns stay. -/
def KeepInts (w w' : World) : Prop := ∀ B v n xs, w.ownsRow B 3 1 v n xs → w'.ownsRow B 3 1 v n xs

theorem KeepInts.refl (w : World) : KeepInts w w := fun _ _ _ _ h => h
theorem KeepInts.trans {w w1 w2 : World} (h : KeepInts w w1) (k : KeepInts w1 w2) : KeepInts w w2 := fun B v n xs q => k B v n xs (h B v n xs q)

theorem apart_of {w : World} {B B' n m e e' : Nat} {v u : Value} {xs ys : List Value} (hne : ¬ e = e') (h : w.ownsRow B e 1 v n xs) (k : w.ownsRow B' e' 1 u m ys) : v.ownBlock = none ∨ v.ownBlock ≠ u.ownBlock := by
  rcases h.2 with ⟨rfl, _⟩ | ⟨g, cap, cur, rfl, _, hh, _⟩
  · exact Or.inl rfl
  · rcases k.2 with ⟨rfl, _⟩ | ⟨g', cap', cur', rfl, _, hh', _⟩
    · right; intro q; cases q
    · have ne : g ≠ g' := by
        intro q
        subst q
        rw [hh] at hh'
        simp at hh'
        exact hne hh'.2
      exact Or.inr (fun q => by simp [Value.ownBlock] at q; exact ne q)

theorem keep_grown {w w' : World} {B m : Nat} {u : Value} {ys : List Value} (k : w.ownsRow B 5 1 u m ys) (hg : w.grownBy w' u.ownBlock) : KeepInts w w' :=
  fun _ _ _ _ h => World.ownsRow.kept h hg (apart_of (by decide) h k)

theorem keep_alloc (w : World) (o : Obj) : KeepInts w (w.alloc o) := fun _ _ _ _ h => World.ownsRow.alloc h o

theorem info_of_byte : ∃ i, Try.prog.info? 5 = some i ∧ i.zero = some (.int .u8 0) ∧ i.size = 1 ∧ i.bytes = 1 := info_parts info_byte

theorem owns_empty (w : World) (e : Nat) : (w.alloc (.cells #[] e)).ownsRow w.heap.size e 1 (.slice (some ⟨w.heap.size, 0, none⟩) 0 0) 0 [] :=
  ⟨rfl, .inr ⟨w.heap.size, 0, #[], rfl, Nat.le_refl _, heap_alloc_new w _, Nat.le_refl _, Nat.zero_le _, rfl, rfl⟩⟩

theorem bys_news {w : World} {b off : Nat} {ms : List Int} (q : ∀ i, i < ms.length → w.cell? ⟨b, off + i, none⟩ = some (.int .u8 (ms.getD i 0))) : ∀ j u, (ms.map (Value.int .u8))[j]? = some u → w.cell? ((⟨b, off, none⟩ : Addr).add j) = some u := by
  intro j u h
  rw [Go.WideShapes.add_plain]
  rw [List.getElem?_map] at h
  cases e : ms[j]? with
  | none => rw [e] at h; simp at h
  | some s =>
    rw [e] at h
    simp at h
    have hj : j < ms.length := by
      rcases Nat.lt_or_ge j ms.length with k | k
      · exact k
      · rw [List.getElem?_eq_none k] at e; simp at e
    rw [q j hj, List.getD_eq_getElem?_getD, e]
    simp [h]

theorem strCells_bs (s : ByteArray) : Go.Lib.strCells s = (Nm.bs s).map (Value.int .u8) := by
  unfold Go.Lib.strCells Nm.bs
  rw [List.map_map]; rfl

/-! ### Write -/

theorem check_zero {n : List (List Int)} (h : Nm.checkN n = 0) : n.all Nm.okL = true ∧ Nm.total n ≤ 254 := by
  unfold Nm.checkN at h
  by_cases c : n.all Nm.okL = true
  · rw [if_pos c] at h
    by_cases d : 254 < Nm.total n
    · rw [if_pos d] at h; simp at h
    · exact ⟨c, by omega⟩
  · rw [if_neg c] at h; simp at h

theorem sent_next (n : List ByteArray) (k : Nat) (hk : k < n.length) : Nm.sentL ((n.map Nm.bs).take (k + 1)) = Nm.sentL ((n.map Nm.bs).take k) ++ (((n.getD k ByteArray.empty).size : Int) :: Nm.bs (n.getD k ByteArray.empty)) := by
  rw [take_map_next n k hk, Nm.sentL_append, Nm.sentL_cons, bs_length, Nm.sentL_nil, List.append_nil]

theorem sent_len (n : List ByteArray) (k : Nat) (h : Nm.checkN (n.map Nm.bs) = 0) : (Nm.sentL ((n.map Nm.bs).take k)).length ≤ 254 := by
  rw [Nm.sentL_length]
  exact Nat.le_trans (flat_take_len _ k) (check_zero h).2

theorem sent_bytes (n : List (List Int)) (h : n.all Nm.okL = true) (hb : ∀ l ∈ n, ∀ x ∈ l, 0 ≤ x ∧ x ≤ 255) : ∀ x ∈ Nm.sentL n, 0 ≤ x ∧ x ≤ 255 := by
  intro x hx
  unfold Nm.sentL at hx
  obtain ⟨l, hl, hx⟩ := List.mem_flatMap.1 hx
  have ho := of_decide_eq_true (List.all_eq_true.1 h l hl)
  rcases List.mem_cons.1 hx with q | q
  · subst q; omega
  · exact hb l hl x q

theorem rowb_bys {w : World} {B : Nat} {v : Value} {xs : List Int} (h : Rowb w B v xs) (hl : xs.length ≤ 200000000000000) (hb : ∀ b ∈ xs, 0 ≤ b ∧ b ≤ 255) :
    ∃ x c, v = .slice x xs.length c ∧ Bys w x c xs := by
  obtain ⟨_, h3⟩ := h
  rcases h3 with ⟨rfl, h4⟩ | ⟨g, cap, cur, rfl, _, hh, hn, _, hs, ht⟩
  · have : xs = [] := List.length_eq_zero_iff.1 h4
    subst this
    exact ⟨none, 0, rfl, Bys.nil w none 0⟩
  · refine ⟨_, cap, rfl, hn, hl, hb, Or.inr ⟨g, 0, rfl, ?_, fun i hi => ?_⟩⟩
    · rcases Nat.lt_or_ge g w.heap.size with q | q
      · exact q
      · rw [Array.getElem?_eq_none q] at hh; simp at hh
    · rw [Nat.zero_add]
      simp only [World.cell?, hh]
      have e : (cur.toList.take (xs.length * 1))[i]? = (xs.map (Value.int .u8))[i]? := by rw [ht]
      rw [List.getElem?_take, if_pos (by omega), List.getElem?_map, List.getElem?_eq_getElem hi] at e
      simp [List.getD_eq_getElem?_getD, List.getElem?_eq_getElem hi]
      simpa using e

def WritePost (out : List Int) (w : World) (e : Ending) (w' : World) : Prop :=
  ∃ x c, e = .returned (.tuple #[.slice x out.length c, .nilIface]) ∧ Bys w' x c out ∧ Below w.heap.size w w'

theorem writePost_of {out xs : List Int} {w w' : World} {v : Value} {m : Nat} {ys : List Value} (h : w'.ownsRow w.heap.size 5 1 v m ys) (hm : m = xs.length) (hy : ys = xs.map (Value.int .u8)) (hx : xs = out) (hl : xs.length ≤ 200000000000000) (hb : ∀ b ∈ out, 0 ≤ b ∧ b ≤ 255) (bel : Below w.heap.size w w') : WritePost out w (.returned (.tuple #[v, .nilIface])) w' := by
  subst hx
  obtain ⟨x, c, rfl, hs⟩ := rowb_bys (Rowb.of h hm hy) hl hb
  exact ⟨x, c, rfl, hs, bel⟩

theorem out_bytes {ms : List Int} {n : List ByteArray} {r : List Int} (hb : ∀ b ∈ ms, 0 ≤ b ∧ b ≤ 255) (hr : ∀ b ∈ r, 0 ≤ b ∧ b ≤ 255) (h : Nm.checkN (n.map Nm.bs) = 0) : ∀ b ∈ ms ++ Nm.sentL (n.map Nm.bs) ++ r, 0 ≤ b ∧ b ≤ 255 := by
  intro b q
  rcases List.mem_append.1 q with q | q
  · rcases List.mem_append.1 q with q | q
    · exact hb b q
    · refine sent_bytes _ (check_zero h).1 (fun l hl x hx => ?_) b q
      obtain ⟨s, _, rfl⟩ := List.mem_map.1 hl
      exact bs_bound s x hx
  · exact hr b q

end Go.Proofs.Ytnbabdfcamdapaa
