/-
  The walk of Read of package rr: the record at a place, in new memory; nothing that was there is written.
-/
import Derived.Test.YtnbabdfcamdapaaRrFind
import Derived.Deep.RegionHeld3
namespace Go.Proofs.Ytnbabdfcamdapaa
open Go.RowKit Go.Deep

/-- A record without anything. -/
def rec0 : Array Value := #[.slice none 0 0, .int .i64 0, .int .i64 0, .int .i64 0, .slice none 0 0]

def RecAt (L : List (List Int)) (ty cl ttl : Int) (D : List Int) (b : Int) (w : World) (e : Ending) (w' : World) : Prop :=
  ∃ y q z r, e = .returned (.tuple #[.agg #[.slice y L.length q, .int .i64 ty, .int .i64 cl, .int .i64 ttl, .slice z D.length r], .int .i64 b, .nilIface]) ∧ Strs w' y q (L.map strOfNums) ∧ Bys w' z r D ∧ (z = none → r = 0) ∧ Below w.heap.size w w' ∧ (∀ a, y = some a → w.heap.size ≤ a.block) ∧ ∀ a, z = some a → w.heap.size ≤ a.block

theorem Bl.put5 {t : TypeId} {w : World} {b : Nat} {a0 a1 a2 a3 a4 : Value} (h : Bl t w b #[a0, a1, a2, a3, a4]) (v0 v1 v2 v3 v4 : Value) :
    Bl t (((((w.setCell ⟨b, 0, none⟩ v0).setCell ⟨b, 1, none⟩ v1).setCell ⟨b, 2, none⟩ v2).setCell ⟨b, 3, none⟩ v3).setCell ⟨b, 4, none⟩ v4) b #[v0, v1, v2, v3, v4] :=
  ((((h.set 0 v0).set 1 v1).set 2 v2).set 3 v3).set 4 v4

theorem Bl.far5 {t : TypeId} {w : World} {b g : Nat} {C : Array Value} (h : Bl t w b C) (hg : ¬ b = g) (v0 v1 v2 v3 v4 : Value) :
    Bl t (((((w.setCell ⟨g, 0, none⟩ v0).setCell ⟨g, 1, none⟩ v1).setCell ⟨g, 2, none⟩ v2).setCell ⟨g, 3, none⟩ v3).setCell ⟨g, 4, none⟩ v4) b C :=
  ((((h.far hg v0).far hg v1).far hg v2).far hg v3).far hg v4

theorem below_put5 {B : Nat} {w w' : World} {b : Nat} (k : Below B w w') (hb : B ≤ b) (v0 v1 v2 v3 v4 : Value) :
    Below B w (((((w'.setCell ⟨b, 0, none⟩ v0).setCell ⟨b, 1, none⟩ v1).setCell ⟨b, 2, none⟩ v2).setCell ⟨b, 3, none⟩ v3).setCell ⟨b, 4, none⟩ v4) :=
  ((((k.setCell hb v0).setCell hb v1).setCell hb v2).setCell hb v3).setCell hb v4

theorem Strs.far {w : World} {x : Option Addr} {c : Nat} {ss : List ByteArray} (h : Strs w x c ss) {p : Addr} (hp : ∀ a, x = some a → ¬ a.block = p.block) (v : Value) : Strs (w.setCell p v) x c ss := by
  obtain ⟨h1, h2, h3, h4⟩ := h
  refine ⟨h1, h2, h3, ?_⟩
  rcases h4 with h4 | ⟨b, off, hx, hb, hc⟩
  · exact Or.inl h4
  · refine Or.inr ⟨b, off, hx, by simpa [World.setCell] using hb, fun i hi => ?_⟩
    rw [← hc i hi]
    have := Below.heap_setCell w p v b (hp _ hx)
    simp only [World.cell?, this]

theorem Bys.far {w : World} {x : Option Addr} {c : Nat} {ms : List Int} (h : Bys w x c ms) {p : Addr} (hp : ∀ a, x = some a → ¬ a.block = p.block) (v : Value) : Bys (w.setCell p v) x c ms := by
  obtain ⟨h1, h2, h3, h4⟩ := h
  refine ⟨h1, h2, h3, ?_⟩
  rcases h4 with h4 | ⟨b, off, hx, hb, hc⟩
  · exact Or.inl h4
  · refine Or.inr ⟨b, off, hx, by simpa [World.setCell] using hb, fun i hi => ?_⟩
    rw [← hc i hi]
    have := Below.heap_setCell w p v b (hp _ hx)
    simp only [World.cell?, this]

theorem Strs.far5 {w : World} {x : Option Addr} {c : Nat} {ss : List ByteArray} (h : Strs w x c ss) {g : Nat} (hp : ∀ a, x = some a → ¬ a.block = g) (v0 v1 v2 v3 v4 : Value) :
    Strs (((((w.setCell ⟨g, 0, none⟩ v0).setCell ⟨g, 1, none⟩ v1).setCell ⟨g, 2, none⟩ v2).setCell ⟨g, 3, none⟩ v3).setCell ⟨g, 4, none⟩ v4) x c ss :=
  ((((h.far hp v0).far hp v1).far hp v2).far hp v3).far hp v4

theorem Bys.far5 {w : World} {x : Option Addr} {c : Nat} {ms : List Int} (h : Bys w x c ms) {g : Nat} (hp : ∀ a, x = some a → ¬ a.block = g) (v0 v1 v2 v3 v4 : Value) :
    Bys (((((w.setCell ⟨g, 0, none⟩ v0).setCell ⟨g, 1, none⟩ v1).setCell ⟨g, 2, none⟩ v2).setCell ⟨g, 3, none⟩ v3).setCell ⟨g, 4, none⟩ v4) x c ms :=
  ((((h.far hp v0).far hp v1).far hp v2).far hp v3).far hp v4

/-- A row of bytes that the call owns is a slice of its own memory. -/
theorem rowb_new {w : World} {B : Nat} {v : Value} {xs : List Int} (h : Rowb w B v xs) (hl : xs.length ≤ 200000000000000) (hb : ∀ b ∈ xs, 0 ≤ b ∧ b ≤ 255) :
    ∃ x c, v = .slice x xs.length c ∧ Bys w x c xs ∧ (x = none → c = 0) ∧ ∀ p, x = some p → B ≤ p.block := by
  have h0 := h
  rcases h.2 with ⟨rfl, h4⟩ | ⟨g, cap, cur, rfl, hg, _⟩
  · have : xs = [] := List.length_eq_zero_iff.1 h4
    subst this
    exact ⟨none, 0, rfl, Bys.nil w none 0, fun _ => rfl, fun p q => by cases q⟩
  · obtain ⟨x, c, e, hs⟩ := rowb_bys h0 hl hb
    cases e
    exact ⟨_, _, rfl, hs, (fun q => by cases q), fun p q => by cases q; exact hg⟩

/-- A copy of some bytes, made by an append to nothing, as a step of a region that draws. -/
theorem step_append_copy {w : World} {ops : Array Oper} {o : Oper} {a : Act} {K : Act → World → Prop} {Q : Exit → Act → World → Prop} {E : Prop} (hgd : o.guard = none) (x : Operand)
    (ho : o.op = .call { callee := .builtin .append, args := #[.const (.slice none 0 0), x], argTypes := #[27, 27] }) (ad : Addr) (m c : Nat) (D : List Int) (hm : D.length = m) (hx : a.eval x = .slice (some ad) m c)
    (hn : ∀ j u, (D.map (Value.int .u8))[j]? = some u → w.cell? (ad.add j) = some u) (hl : D.length ≤ 200000000000000) (hb : ∀ b ∈ D, 0 ≤ b ∧ b ≤ 255)
    (h : ∀ z r w', Bys w' z r D → (z = none → r = 0) → (∀ p, z = some p → w.heap.size ≤ p.block) → Below w.heap.size w w' → K (a.put o.dst (.slice z m r)) w') :
    if Region.wanted o (yielded ops a.tmps) = true then Oper.wp Try.prog o a w K Q else E := by
  have hw : Region.wanted o (yielded ops a.tmps) = true := by simp [Region.wanted, hgd]
  rw [if_pos hw]
  obtain ⟨i0, hi, hz0, hz1, hz2⟩ := info_of_byte
  subst hm
  obtain ⟨v', w', hr, hown, hgr, _⟩ := run_append_own_wide (P := Try.prog) w w.heap.size 27 o.type 5 i0 (.int .u8 0) 1 1 Try.underlying27 hi hz0 hz1 hz2 rfl (by decide) (.slice none 0 0) 0 [] (World.ownsRow_nil _ _ _ _) ad D.length c (D.map (Value.int .u8)) (by simp) hn (one_cells D) (by unfold maxLen; omega) (by omega) (Nat.le_refl _)
  have hbel := grown_below (World.ownsRow_nil w w.heap.size 5 1) (Below.refl _ w) (Nat.le_refl _) hgr
  obtain ⟨z, r, rfl, hs, hzr, hf⟩ := rowb_new (Rowb.of (xs := D) hown (by simp) (by simp)) hl hb
  unfold Oper.wp execOp
  simp only [ho, resolve, invoke, builtin, Sem.run_bind, Sem.run_pure, Result.andThen_ok, List.map_toArray, List.map_cons, List.map_nil, hx]
  have hc : a.eval (.const (.slice none 0 0)) = .slice none 0 0 := rfl
  rw [hc, hr]
  exact h z r w' hs hzr hf hbel

theorem cut_cut (ms : List Int) (a k i j : Nat) (h : i + j ≤ k) : Nm.cut (Nm.cut ms a k) i j = Nm.cut ms (a + i) j := by
  unfold Nm.cut
  rw [List.drop_take, List.drop_drop, List.take_take, Nat.min_eq_left (by omega)]

theorem rread_end {L : List (List Int)} {ty cl ttl b : Int} {D : List Int} {w u : World} {y z : Option Addr} {q r m : Nat} (hm : D.length = m) (h1 : Strs u y q (L.map strOfNums)) (h2 : Bys u z r D) (h3 : z = none → r = 0) (h4 : Below w.heap.size w u)
    (h5 : ∀ a, y = some a → w.heap.size + 1 ≤ a.block) (h6 : ∀ a, z = some a → w.heap.size + 1 ≤ a.block) (v0 v1 v2 v3 v4 : Value) : RecAt L ty cl ttl D b w (.returned (.tuple #[.agg #[.slice y L.length q, .int .i64 ty, .int .i64 cl, .int .i64 ttl, .slice z m r], .int .i64 b, .nilIface]))
      (((((u.setCell ⟨w.heap.size, 0, none⟩ v0).setCell ⟨w.heap.size, 1, none⟩ v1).setCell ⟨w.heap.size, 2, none⟩ v2).setCell ⟨w.heap.size, 3, none⟩ v3).setCell ⟨w.heap.size, 4, none⟩ v4) := by
  subst hm
  exact ⟨y, q, z, r, rfl, h1.far5 (fun a e => by have := h5 a e; omega) _ _ _ _ _, h2.far5 (fun a e => by have := h6 a e; omega) _ _ _ _ _, h3, below_put5 h4 (Nat.le_refl _) _ _ _ _ _, fun a e => by have := h5 a e; omega, fun a e => by have := h6 a e; omega⟩

end Go.Proofs.Ytnbabdfcamdapaa
