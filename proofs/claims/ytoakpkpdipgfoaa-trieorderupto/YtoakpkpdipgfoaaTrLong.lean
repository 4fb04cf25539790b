/-
  The walk of the document's own answer Longest.
-/
import Derived.Test.YtoakpkpdipgfoaaTrInv
namespace Go.Proofs.Ytoakpkpdipgfoaa
open Go.RowKit Go.Deep

theorem LongAt.next_no {P : List Bg} {Q : List Int} {k : Nat} {b : Int} (h : LongAt P Q k b) (hk : k < P.length) (hn : ¬ fitB P[k] Q) : LongAt P Q (k + 1) b := by
  rcases h with ⟨e, h⟩ | ⟨t, ht, htk, e, hf, hm⟩
  · refine Or.inl ⟨e, fun j hj hlt => ?_⟩
    rcases Nat.lt_or_ge j k with z | z
    · exact h j hj z
    · obtain rfl : j = k := by omega
      exact hn
  · refine Or.inr ⟨t, ht, by omega, e, hf, fun j hj hlt hfj => ?_⟩
    rcases Nat.lt_or_ge j k with z | z
    · exact hm j hj z hfj
    · obtain rfl : j = k := by omega
      exact absurd hfj hn

theorem LongAt.next_first {P : List Bg} {Q : List Int} {k : Nat} {b : Int} (h : LongAt P Q k b) (hk : k < P.length) (hf : fitB P[k] Q) (hb : b < 0) : LongAt P Q (k + 1) (k : Int) := by
  rcases h with ⟨_, h⟩ | ⟨t, ht, htk, e, _, hm⟩
  · refine Or.inr ⟨k, hk, by omega, rfl, hf, fun j hj hlt hfj => ?_⟩
    rcases Nat.lt_or_ge j k with z | z
    · exact absurd hfj (h j hj z)
    · obtain rfl : j = k := by omega
      exact ⟨Int.le_refl _, fun _ => Nat.le_refl _⟩
  · omega

theorem LongAt.next_more {P : List Bg} {Q : List Int} {k t : Nat} (h : LongAt P Q k (t : Int)) (hk : k < P.length) (ht : t < P.length) (hf : fitB P[k] Q) (hg : P[t].n ≤ P[k].n) : LongAt P Q (k + 1) (k : Int) := by
  rcases h with ⟨e, _⟩ | ⟨t', ht', htk, e, _, hm⟩
  · omega
  · obtain rfl : t = t' := by omega
    refine Or.inr ⟨k, hk, by omega, rfl, hf, fun j hj hlt hfj => ?_⟩
    rcases Nat.lt_or_ge j k with z | z
    · exact ⟨by have := (hm j hj z hfj).1; omega, fun _ => by omega⟩
    · obtain rfl : j = k := by omega
      exact ⟨Int.le_refl _, fun _ => Nat.le_refl _⟩

theorem LongAt.next_less {P : List Bg} {Q : List Int} {k t : Nat} (h : LongAt P Q k (t : Int)) (hk : k < P.length) (ht : t < P.length) (hg : ¬ P[t].n ≤ P[k].n) : LongAt P Q (k + 1) (t : Int) := by
  rcases h with ⟨e, _⟩ | ⟨t', ht', htk, e, hf, hm⟩
  · omega
  · obtain rfl : t = t' := by omega
    refine Or.inr ⟨t, ht, by omega, rfl, hf, fun j hj hlt hfj => ?_⟩
    rcases Nat.lt_or_ge j k with z | z
    · exact hm j hj z hfj
    · obtain rfl : j = k := by omega
      exact ⟨by omega, fun q => by omega⟩

theorem LongAt.in {P : List Bg} {Q : List Int} {k : Nat} {b : Int} (h : LongAt P Q k b) : b = -1 ∨ ∃ t, ∃ _ : t < P.length, t < k ∧ b = (t : Int) := by
  rcases h with ⟨e, _⟩ | ⟨t, ht, htk, e, _⟩
  · exact Or.inl e
  · exact Or.inr ⟨t, ht, htk, e⟩

/-- One held against an address, in a quiet region. -/
theorem alike_f {w : World} {a : Bg} {x : Option Addr} {c : Nat} {Q : List Int} (ha : a.e.in w) (hq : Bys w x c Q) (ra : RightB a) (hn : a.n ≤ 8 * (Q.length : Int)) :
    Calls Try.prog 11 #[.slice a.e.x a.e.A.length a.e.c, .slice x Q.length c, .int .i64 a.n] w fun e w' => e = .returned (.bool (decide (Al a.e.A Q a.n.toNat))) ∧ w' = w := by
  obtain ⟨N, hN⟩ : ∃ N : Nat, a.n = (N : Int) := ⟨a.n.toNat, by have := ra.2.1; omega⟩
  have h1 := ra.2.2
  rw [hN, Int.toNat_natCast]
  refine (alike_at (decide (Al a.e.A Q N)) a.e.A Q N w ha.1 hq rfl rfl (by omega) (by omega) (by rw [decide_eq_true_iff]; exact Iff.rfl)).mono ?_
  rintro e w' ⟨rfl, rfl⟩
  exact ⟨rfl, rfl⟩

end Go.Proofs.Ytoakpkpdipgfoaa
