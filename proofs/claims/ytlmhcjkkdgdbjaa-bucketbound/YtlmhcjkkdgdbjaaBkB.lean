/-
  What the law BucketBound keeps: two rows of numbers of the call's own, the bucket in its block.
-/
import Derived.Test.YtlmhcjkkdgdbjaaBkL
import Derived.Test.YtlmhcjkkdgdbjaaMsgPack
import Derived.Maps.AppendAt
namespace Go.Proofs.Ytlmhcjkkdgdbjaa.Bu
open Go.RowKit Go.Deep

/-- Two rows of numbers of the call's own that share nothing. -/
def Two (w : World) (B : Nat) (v1 v2 : Value) (A T : List Int) : Prop := Rowi w B v1 A ∧ Rowi w B v2 T ∧ ∀ g, v1.ownBlock = some g → v2.ownBlock ≠ some g

theorem Two.none (w : World) (B : Nat) : Two w B (.slice none 0 0) (.slice none 0 0) [] [] := ⟨⟨rfl, Or.inl ⟨rfl, rfl⟩⟩, ⟨rfl, Or.inl ⟨rfl, rfl⟩⟩, fun g h => by cases h⟩

theorem rowi_stay {w w' : World} {B : Nat} {v : Value} {xs : List Int} (h : Rowi w B v xs) (k : Below w.heap.size w w') : Rowi w' B v xs := by
  refine World.ownsRow.kept h (row := Option.none) ⟨k.os, k.tape, k.output, k.size, fun i hi _ => k.block i hi⟩ ?_
  cases v.ownBlock <;> simp

theorem Two.stay {w w' : World} {B : Nat} {v1 v2 : Value} {A T : List Int} (h : Two w B v1 v2 A T) (k : Below w.heap.size w w') : Two w' B v1 v2 A T := ⟨rowi_stay h.1 k, rowi_stay h.2.1 k, h.2.2⟩

theorem grown_set (w : World) (p : Addr) (u : Value) : w.grownBy (w.setCell p u) (some p.block) := by
  have k := (Below.refl 0 w).setCell (p := p) (Nat.zero_le _) u
  refine ⟨k.os, k.tape, k.output, k.size, fun i hi hne => ?_⟩
  exact Below.heap_setCell w p u i (fun e => hne (by rw [e]))

theorem rowi_far {w : World} {B : Nat} {v : Value} {xs : List Int} (h : Rowi w B v xs) {p : Addr} (hp : p.block < B) (u : Value) : Rowi (w.setCell p u) B v xs := by
  refine World.ownsRow.kept h (grown_set w p u) (Or.inr fun e => ?_)
  have := (World.ownsRow.lt h _ e).1
  omega

theorem Two.far {w : World} {B : Nat} {v1 v2 : Value} {A T : List Int} (h : Two w B v1 v2 A T) {p : Addr} (hp : p.block < B) (u : Value) : Two (w.setCell p u) B v1 v2 A T := ⟨rowi_far h.1 hp u, rowi_far h.2.1 hp u, h.2.2⟩

theorem Two.put4 {w : World} {B b : Nat} {v1 v2 : Value} {A T : List Int} (h : Two w B v1 v2 A T) (hb : b < B) (x0 x1 x2 x3 : Value) :
    Two ((((w.setCell ⟨b, 0, Option.none⟩ x0).setCell ⟨b, 1, Option.none⟩ x1).setCell ⟨b, 2, Option.none⟩ x2).setCell ⟨b, 3, Option.none⟩ x3) B v1 v2 A T :=
  (((h.far (p := ⟨b, 0, Option.none⟩) hb x0).far (p := ⟨b, 1, Option.none⟩) hb x1).far (p := ⟨b, 2, Option.none⟩) hb x2).far (p := ⟨b, 3, Option.none⟩) hb x3

theorem rowi_slice {w : World} {B : Nat} {v : Value} {xs : List Int} (h : Rowi w B v xs) : ∃ x c, v = .slice x xs.length c := by
  rcases h.2 with ⟨e, e2⟩ | ⟨g, cap, cur, e, _⟩
  · exact ⟨Option.none, 0, by rw [e, e2]⟩
  · exact ⟨_, cap, e⟩

/-- One number more behind the first row. -/
theorem wpList_one_first {w : World} {B : Nat} {v1 v2 : Value} {A T : List Int} {z : Int} {ad : Addr} {ops : Array Oper} {rest : List Oper} {o : Oper} {a : Act} {Q : Exit → Act → World → Prop} (hgd : o.guard = none) (sl x : Operand)
    (ho : o.op = .call { callee := .builtin .append, args := #[sl, x], argTypes := #[24, 24] }) (hs : a.eval sl = v1) (hx : a.eval x = .slice (some ad) 1 1) (hr : Two w B v1 v2 A T) (hy : w.cell? ad = some (.int .i64 z)) (hl : A.length ≤ 1000) (hB : B ≤ w.heap.size)
    (hK : ∀ v' w', Two w' B v' v2 (A ++ [z]) T → Below B w w' → w.grownBy w' v1.ownBlock → wpList Try.prog ops Q rest (a.put o.dst v') w') : wpList Try.prog ops Q (o :: rest) a w := by
  obtain ⟨i0, hi, hz0, hz1, hz2⟩ := info_of_int
  refine wpList_append_own_at w hgd sl x 24 ho B 3 i0 (.int .i64 0) 1 8 Try.underlying24 hi hz0 hz1 hz2 rfl (by omega) v1 A.length (A.map (Value.int .i64)) hs hr.1 ad 1 1 [.int .i64 z] hx rfl ?_ (by intro u hu; rw [List.mem_singleton] at hu; subst hu; rfl) (by unfold maxLen; omega) (by omega) hB ?_
  · intro j u hj
    match j, hj with
    | 0, hj =>
      simp only [List.getElem?_cons_zero, Option.some.injEq] at hj
      subst hj
      simpa [Addr.add] using hy
    | j + 1, hj => simp at hj
  · intro v' w' h2 h3 h4 h5
    have hlt := World.ownsRow.lt hr.2.1
    have hne : ∀ g, v2.ownBlock = some g → v1.ownBlock ≠ some g := fun g h1 h2 => hr.2.2 g h2 h1
    refine hK v' w' ⟨?_, ?_, ?_⟩ ?_ h3
    · exact Rowi.of h2 (by simp) (by simp)
    · refine World.ownsRow.kept hr.2.1 h3 ?_
      cases hq : v2.ownBlock with
      | none => exact Or.inl rfl
      | some k => exact Or.inr (fun q => hne k hq q.symm)
    · intro g hg hg2
      rcases h5 with e | e
      · rw [e] at hg; exact hr.2.2 g hg hg2
      · rw [e] at hg; cases hg; have := (hlt _ hg2).2; omega
    · refine (Below.refl B w).grown h3 hB fun k hk => ?_
      exact (World.ownsRow.lt hr.1 k hk).1

/-- One number more behind the second row. -/
theorem wpList_one_second {w : World} {B : Nat} {v1 v2 : Value} {A T : List Int} {z : Int} {ad : Addr} {ops : Array Oper} {rest : List Oper} {o : Oper} {a : Act} {Q : Exit → Act → World → Prop} (hgd : o.guard = none) (sl x : Operand)
    (ho : o.op = .call { callee := .builtin .append, args := #[sl, x], argTypes := #[24, 24] }) (hs : a.eval sl = v2) (hx : a.eval x = .slice (some ad) 1 1) (hr : Two w B v1 v2 A T) (hy : w.cell? ad = some (.int .i64 z)) (hl : T.length ≤ 1000) (hB : B ≤ w.heap.size)
    (hK : ∀ v' w', Two w' B v1 v' A (T ++ [z]) → Below B w w' → w.grownBy w' v2.ownBlock → wpList Try.prog ops Q rest (a.put o.dst v') w') : wpList Try.prog ops Q (o :: rest) a w := by
  obtain ⟨i0, hi, hz0, hz1, hz2⟩ := info_of_int
  refine wpList_append_own_at w hgd sl x 24 ho B 3 i0 (.int .i64 0) 1 8 Try.underlying24 hi hz0 hz1 hz2 rfl (by omega) v2 T.length (T.map (Value.int .i64)) hs hr.2.1 ad 1 1 [.int .i64 z] hx rfl ?_ (by intro u hu; rw [List.mem_singleton] at hu; subst hu; rfl) (by unfold maxLen; omega) (by omega) hB ?_
  · intro j u hj
    match j, hj with
    | 0, hj =>
      simp only [List.getElem?_cons_zero, Option.some.injEq] at hj
      subst hj
      simpa [Addr.add] using hy
    | j + 1, hj => simp at hj
  · intro v' w' h2 h3 h4 h5
    have hlt := World.ownsRow.lt hr.1
    have hne : ∀ g, v1.ownBlock = some g → v2.ownBlock ≠ some g := fun g h1 h2 => hr.2.2 g h1 h2
    refine hK v' w' ⟨?_, ?_, ?_⟩ ?_ h3
    · refine World.ownsRow.kept hr.1 h3 ?_
      cases hq : v1.ownBlock with
      | none => exact Or.inl rfl
      | some k => exact Or.inr (fun q => hne k hq q.symm)
    · exact Rowi.of h2 (by simp) (by simp)
    · intro g hg hg2
      rcases h5 with e | e
      · rw [e] at hg2; exact hr.2.2 g hg hg2
      · rw [e] at hg2; cases hg2; have := (hlt _ hg).2; omega
    · refine (Below.refl B w).grown h3 hB fun k hk => ?_
      exact (World.ownsRow.lt hr.2.1 k hk).1

/-- What the law's loop keeps. -/
def BRel (w : World) (W : List Int) (v8 v9 v10 v11 : Value) (wr : World) : Prop :=
  ∃ (i : Nat) (A T : List Int) (b : Bk), i ≤ W.length ∧ v11 = .int .i64 (i : Int) ∧ v10 = .int .i64 b.at' ∧ A.length = i ∧ Bound b A T ∧ ok b ∧ (∀ x ∈ A, 0 ≤ x ∧ x ≤ 2147483647) ∧ (∀ x ∈ T, 0 ≤ x ∧ x ≤ 2147483647) ∧
    Two wr (w.heap.size + 1) v8 v9 A T ∧ Bl 23 wr w.heap.size #[.int .i64 b.rate, .int .i64 b.burst, .int .i64 b.has, .int .i64 b.at'] ∧ Below w.heap.size w wr

end Go.Proofs.Ytlmhcjkkdgdbjaa.Bu
