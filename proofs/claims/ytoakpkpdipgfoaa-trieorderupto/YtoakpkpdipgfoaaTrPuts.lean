/-
  What the laws on tries share: a block that stays, the first bytes of an address, a law's trie and a Put of any beginning.
-/
import Derived.Test.YtoakpkpdipgfoaaTrTried
namespace Go.Proofs.Ytoakpkpdipgfoaa
open Go.RowKit Go.Deep

/-- Worlds in which a block is as it was. -/
structure Has (g : Nat) (o : Option Obj) where
  val : World
  has : val.heap[g]? = o

theorem Has.cell {g : Nat} {w : World} (s : Has g w.heap[g]?) (i : Nat) : s.val.cell? ⟨g, i, none⟩ = w.cell? ⟨g, i, none⟩ := World.cell?_of_block (w := w) s.has

/-- The first sixteen bytes of some bytes. -/
theorem Bys.take_of {w u : World} {x : Option Addr} {c : Nat} {Q : List Int} (h : Bys w x c Q) (k : Below w.heap.size w u) : Bys u x c (Q.take 16) := by
  obtain ⟨h1, h2, h3, h4⟩ := h.below k
  refine ⟨by rw [List.length_take]; omega, by rw [List.length_take]; omega, fun b hb => h3 b (List.mem_of_mem_take hb), ?_⟩
  rcases h4 with h4 | ⟨b, off, hx, hb, hc⟩
  · left; rw [h4]; rfl
  · refine Or.inr ⟨b, off, hx, hb, fun i hi => ?_⟩
    rw [List.length_take] at hi
    rw [hc i (by omega)]
    rw [List.getD_eq_getElem?_getD, List.getD_eq_getElem?_getD, List.getElem?_take_of_lt (by omega)]

theorem take_bit {Q : List Int} {i : Nat} (h : i < 128) : bitN (padN (Q.take 16)) i = bitN Q i := by
  rw [padN_bit, byt_bit, byt_bit]
  unfold byt
  rw [List.getD_eq_getElem?_getD, List.getD_eq_getElem?_getD, List.getElem?_take_of_lt (by omega)]

theorem take_al {A Q : List Int} {N : Nat} (h : N ≤ 128) : Al A Q N ↔ Al A (padN (Q.take 16)) N := by
  constructor
  · intro z i hi; rw [take_bit (by omega)]; exact z i hi
  · intro z i hi; rw [z i hi, take_bit (by omega)]

/-- The state of a law's tries: T lies at tb, all else of w3 is as it was. -/
structure TrieL (w3 wr : World) (tb : Nat) (T : Tn) (j : Nat) : Prop where
  st : TrieS wr tb T
  len : T.ents.length ≤ j
  new : ∀ b ∈ T.blks, w3.heap.size ≤ b
  only : Only [tb] w3 wr

theorem TrieL.put {w3 wr w' : World} {tb : Nat} {T T' : Tn} {j : Nat} (h : TrieL w3 wr tb T j) (s : TrieS w' tb T') (hl : T'.ents.length ≤ j + 1) (o : Only (tb :: T.blks) wr w') (n : ∀ x ∈ T'.blks, x ∈ T.blks ∨ wr.heap.size ≤ x) : TrieL w3 w' tb T' (j + 1) :=
  ⟨s, hl, fun b hb => by
    rcases n b hb with q | q
    · exact h.new b q
    · exact Nat.le_trans h.only.size q, h.only.trans o (fun x hx => by
    rcases List.mem_cons.1 hx with rfl | q
    · left; simp
    · right; exact h.new x q)⟩

theorem TrieL.grow {w3 wr w' : World} {tb : Nat} {T : Tn} {j : Nat} (h : TrieL w3 wr tb T j) (d : Below wr.heap.size wr w') : TrieL w3 w' tb T j :=
  ⟨h.st.below d, h.len, h.new, h.only.grow d⟩

theorem Upd.len {T T' : Tn} {A : List Int} {n : Nat} {val : Int} (u : Upd T T' A n val) : T'.ents.length ≤ T.ents.length + 1 := by
  by_cases c : ∃ e ∈ T.ents, e.2.1 = n ∧ Al e.1 A n
  · rw [u.old c]; omega
  · rw [u.fresh c]; exact Nat.le_refl _

/-- What a Put of any beginning makes of a law's trie. -/
def PutL (w3 w : World) (tb : Nat) (T : Tn) (j : Nat) (A : List Int) (n val : Int) (e : Ending) (w' : World) : Prop :=
  (∃ N : Nat, n = (N : Int) ∧ A.length ≤ 16 ∧ N ≤ 8 * A.length ∧ e = .returned .nilIface ∧ ∃ T', TrieL w3 w' tb T' (j + 1) ∧ Upd T T' A N val ∧ Only (tb :: T.blks) w w') ∨
    (¬ (A.length ≤ 16 ∧ 0 ≤ n ∧ n ≤ 8 * (A.length : Int)) ∧ e = .returned (errV 6) ∧ TrieL w3 w' tb T (j + 1) ∧ w = w')

theorem put_law {w3 wr : World} {tb : Nat} {T : Tn} {j : Nat} (h : TrieL w3 wr tb T j) {x : Option Addr} {c l : Nat} (A : List Int) (n val : Int) (ha : Bys wr x c A) (hl : A.length = l) (hj : j ≤ 1000000000) :
    Calls Try.prog 9 #[.pointer (some ⟨tb, 0, none⟩), .slice x l c, .int .i64 n, .int .i64 val] wr (PutL w3 wr tb T j A n val) := by
  by_cases cr : A.length ≤ 16 ∧ 0 ≤ n ∧ n ≤ 8 * (A.length : Int)
  · obtain ⟨N, rfl⟩ : ∃ N : Nat, n = (N : Int) := ⟨n.toNat, by omega⟩
    refine (tput_good tb T A N val wr h.st ha hl cr.1 (by omega) (by have := h.len; omega)).mono ?_
    rintro e w' ⟨rfl, T', s, u, o, nn⟩
    exact Or.inl ⟨N, rfl, cr.1, by omega, rfl, T', h.put s (by have := u.len; have := h.len; omega) o nn, u, o⟩
  · refine (tput_bad tb n val wr (by rw [← hl]; exact ha.2.1) (by omega)).mono ?_
    rintro e w' ⟨rfl, rfl⟩
    exact Or.inr ⟨cr, rfl, ⟨h.st, by have := h.len; omega, h.new, h.only⟩, rfl⟩

end Go.Proofs.Ytoakpkpdipgfoaa
