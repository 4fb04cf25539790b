/-
  The walks of the document's own answers on beginnings: Right, Kinds, Unlike, Longest.
-/
import Derived.Test.YtoakpkpdipgfoaaTrTried
import Derived.Test.YtoakpkpdipgfoaaRefS2
import Derived.BigQuiet
namespace Go.Proofs.Ytoakpkpdipgfoaa
open Go.RowKit Go.Deep

/-- One that can be put. -/
def RightB (b : Bg) : Prop := b.e.A.length ≤ 16 ∧ 0 ≤ b.n ∧ b.n ≤ 8 * (b.e.A.length : Int)

instance (b : Bg) : Decidable (RightB b) := inferInstanceAs (Decidable (_ ∧ _ ∧ _))

set_option maxHeartbeats 1000000 in
set_option maxRecDepth 100000 in
theorem right_at (r : Bool) (E : Bv) (n v : Int) (w : World) (hl : E.A.length ≤ 200000000000000) (hr : decide (RightB ⟨E, n, v⟩) = r) :
    Calls Try.prog 13 #[.agg #[.slice E.x E.A.length E.c, .int .i64 n, .int .i64 v]] w fun e w' => e = .returned (.bool r) ∧ Below w.heap.size w w' := by
  have B0 := hid ((Below.refl w.heap.size w).alloc (Nat.le_refl _) (.cells #[.slice E.x E.A.length E.c, .int .i64 n, .int .i64 v] 36))
  subst hr
  by_cases c1 : E.A.length ≤ 16
  · have c1' : (E.A.length : Int) ≤ 16 := by omega
    by_cases c2 : 0 ≤ n
    · by_cases c3 : n ≤ 8 * (E.A.length : Int)
      · rw [decide_eq_true (show RightB ⟨E, n, v⟩ from ⟨c1, c2, c3⟩)]
        go_enter Try.func13, Try.ntmps13
        go_wp2
        go_ret
        exact ⟨rfl, B0.out⟩
      · rw [decide_eq_false (show ¬ RightB ⟨E, n, v⟩ from fun q => c3 q.2.2)]
        go_enter Try.func13, Try.ntmps13
        go_wp2
        go_ret
        exact ⟨rfl, B0.out⟩
    · rw [decide_eq_false (show ¬ RightB ⟨E, n, v⟩ from fun q => c2 q.2.1)]
      go_enter Try.func13, Try.ntmps13
      go_wp2
      go_ret
      exact ⟨rfl, B0.out⟩
  · have c1' : ¬ (E.A.length : Int) ≤ 16 := by omega
    rw [decide_eq_false (show ¬ RightB ⟨E, n, v⟩ from fun q => c1 q.1)]
    go_enter Try.func13, Try.ntmps13
    go_wp2
    go_ret
    exact ⟨rfl, B0.out⟩

instance : Inhabited Bg := ⟨⟨default, 0, 0⟩⟩

/-- For the same bits. -/
def sameB (P : List Bg) (j i : Nat) : Bool := decide ((P.getD j default).n = (P.getD i default).n ∧ Al (P.getD j default).e.A (P.getD i default).e.A (P.getD i default).n.toNat)

def freshUp (P : List Bg) (i t : Nat) : Bool := !((List.range t).any fun j => sameB P j i)

theorem freshUp_succ (P : List Bg) (i t : Nat) : freshUp P i (t + 1) = (freshUp P i t && !sameB P t i) := by
  unfold freshUp
  rw [List.range_succ, List.any_append]
  simp

def kN (P : List Bg) (k : Nat) : Nat := ((List.range k).filter fun i => freshUp P i i).length

theorem kN_succ (P : List Bg) (k : Nat) : kN P (k + 1) = kN P k + (if freshUp P k k then 1 else 0) := by
  unfold kN
  rw [List.range_succ, List.filter_append, List.length_append]
  cases h : freshUp P k k <;> simp [h]

theorem kN_le (P : List Bg) (k : Nat) : kN P k ≤ k := by
  induction k with
  | zero => simp [kN]
  | succ k ih => rw [kN_succ]; split <;> omega

/-- Where a beginning's cells lie. -/
theorem Bgs.at {w : World} {B : Nat} {x : Option Addr} {c : Nat} {l : List Bg} (h : Bgs w B x c l) {i : Nat} (hi : i < l.length) :
    ∃ g, x = some ⟨g, 0, none⟩ ∧ g < w.heap.size ∧ w.cell? ⟨g, i * 3, none⟩ = some (.slice (l[i]).e.x (l[i]).e.A.length (l[i]).e.c) ∧ w.cell? ⟨g, i * 3 + 1, none⟩ = some (.int .i64 (l[i]).n) ∧ w.cell? ⟨g, i * 3 + 2, none⟩ = some (.int .i64 (l[i]).val) := by
  rcases h.2 with h2 | ⟨g, cur, hx, _, hh, hc⟩
  · rw [h2] at hi; simp at hi
  · obtain ⟨q0, q1, q2⟩ := hc i hi
    refine ⟨g, hx, ?_, by simp [World.cell?, hh, q0, Bv.v], by simp [World.cell?, hh, q1], by simp [World.cell?, hh, q2]⟩
    rcases Nat.lt_or_ge g w.heap.size with q | q
    · exact q
    · rw [Array.getElem?_eq_none q] at hh; cases hh

theorem Bgs.drawn {w w' : World} {B : Nat} {x : Option Addr} {c : Nat} {l : List Bg} (h : Bgs w B x c l) (k : Drawn w w') : Bgs w' B x c l := h.below (k.below _)

/-- Two beginnings held against each other, in a quiet region. -/
theorem alike_q {w : World} {a b : Bg} (ha : a.e.in w) (hb : b.e.in w) (ra : RightB a) (rb : RightB b) (hn : a.n = b.n) :
    Calls Try.prog 11 #[.slice a.e.x a.e.A.length a.e.c, .slice b.e.x b.e.A.length b.e.c, .int .i64 b.n] w fun e w' => e = .returned (.bool (decide (Al a.e.A b.e.A b.n.toNat))) ∧ w' = w := by
  obtain ⟨N, hN⟩ : ∃ N : Nat, b.n = (N : Int) := ⟨b.n.toNat, by have := rb.2.1; omega⟩
  have h1 := ra.2.2
  have h2 := rb.2.2
  rw [hN, Int.toNat_natCast]
  refine (alike_at (decide (Al a.e.A b.e.A N)) a.e.A b.e.A N w ha.1 hb.1 rfl rfl (by omega) (by omega) (by rw [decide_eq_true_iff]; exact Iff.rfl)).mono ?_
  rintro e w' ⟨rfl, rfl⟩
  exact ⟨rfl, rfl⟩

end Go.Proofs.Ytoakpkpdipgfoaa
