/-
  A row of beginnings and a trie in one memory: neither is in the other's way.
-/
import Derived.Test.YtoakpkpdipgfoaaTrLong
namespace Go.Proofs.Ytoakpkpdipgfoaa
open Go.RowKit Go.Deep

theorem Mem.typed {w : World} {T : Tn} (h : Mem w T) : ∀ b ∈ T.blks, ∃ C, Bl 56 w b C := by
  induction T with
  | nil => intro b hb; simp [Tn.blks] at hb
  | node b a n v g l r ihl ihr =>
    obtain ⟨h1, h2, h3⟩ := h
    intro x hx
    simp only [Tn.blks, List.mem_cons, List.mem_append] at hx
    rcases hx with rfl | hx | hx
    · exact ⟨_, h1⟩
    · exact ihl h2 x hx
    · exact ihr h3 x hx

theorem TrieS.notRow {w : World} {tb : Nat} {T : Tn} (h : TrieS w tb T) {g : Nat} {cur : Array Value} (hg : w.heap[g]? = some (.cells cur 36 (0, 0))) : g ∉ tb :: T.blks := by
  intro q
  rcases List.mem_cons.1 q with rfl | q
  · have := h.root
    unfold Bl at this
    rw [hg] at this
    simp at this
  · obtain ⟨C, hC⟩ := h.mem.typed g q
    unfold Bl at hC
    rw [hg] at hC
    simp at hC

theorem BRow.same {w w' : World} {B : Nat} {v : Value} {l : List Bg} (h : BRow w B v l) (k : ∀ g cur, B ≤ g → w.heap[g]? = some (.cells cur 36 (0, 0)) → w'.heap[g]? = w.heap[g]?) : BRow w' B v l := by
  obtain ⟨h1, h2⟩ := h
  refine ⟨h1, ?_⟩
  rcases h2 with q | ⟨g, cap, cur, hv, hb, hg, r⟩
  · exact Or.inl q
  · exact Or.inr ⟨g, cap, cur, hv, hb, by rw [k g cur hb hg, hg], r⟩

theorem heap_lt {w : World} {g : Nat} {o : Obj} (h : w.heap[g]? = some o) : g < w.heap.size := by
  rcases Nat.lt_or_ge g w.heap.size with q | q
  · exact q
  · rw [Array.getElem?_eq_none q] at h; cases h

theorem BRow.below {w w' : World} {B : Nat} {v : Value} {l : List Bg} (h : BRow w B v l) (k : Below w.heap.size w w') : BRow w' B v l :=
  h.same fun g _ _ hg => k.block g (heap_lt hg)

theorem BRow.put {w w' : World} {B tb : Nat} {T : Tn} {v : Value} {l : List Bg} (h : BRow w B v l) (s : TrieS w tb T) (k : Only (tb :: T.blks) w w') : BRow w' B v l :=
  h.same fun g _ _ hg => k.block g (heap_lt hg) (s.notRow hg)

theorem TrieL.append {w3 w w' : World} {B tb j : Nat} {T : Tn} {v : Value} {l : List Bg} (h : TrieL w3 w tb T j) (hr : BRow w B v l) (hg : w.grownBy w' v.ownBlock) (hB : w3.heap.size ≤ B) : TrieL w3 w' tb T j := by
  rcases hr.2 with ⟨e, _⟩ | ⟨g, cap, cur, e, hgB, hh, _⟩
  · rw [e] at hg
    have : Below w.heap.size w w' := ⟨hg.os, hg.tape, hg.output, hg.size, fun k hk => hg.block k hk (by simp [Value.ownBlock])⟩
    exact h.grow this
  · rw [e] at hg
    have ho : Only [g] w w' := ⟨hg.os, hg.tape, hg.output, hg.size, fun k hk hn => hg.block k hk (by simp [Value.ownBlock]; simpa using hn)⟩
    have hn := h.st.notRow hh
    exact ⟨h.st.other ho (fun b hb q => hn (by have : b = g := (by simpa using q); rw [← this]; exact hb)), h.len, h.new, h.only.trans ho (fun x hx => Or.inr (by have : x = g := (by simpa using hx); omega))⟩

end Go.Proofs.Ytoakpkpdipgfoaa
