/-
  The contracts of Read, Write and their like with lengths and answers as a caller spells them; a message of some bytes; what is appended where nothing is.
-/
import Derived.Test.YtnbabdfcamdapaaMsgWrite
import Derived.Test.YtnbabdfcamdapaaMsgBytes
import Derived.Deep.AppendSrc
namespace Go.Proofs.Ytnbabdfcamdapaa
open Go.RowKit Go.Deep

theorem grown_on {w w1 w2 : World} (h : Below w.heap.size w w1) (k : Below w1.heap.size w1 w2) : Below w.heap.size w w2 := h.trans (k.mono h.size)

theorem one_new (w : World) (s : ByteArray) (hs : s.size ≤ 140737488355328) : Strs (w.alloc (.cells #[.string s] 9)) (some ⟨w.heap.size, 0, none⟩) 1 [s] :=
  Strs.one (by simp) (by rw [World.cell?_alloc_at _ _ _ _ rfl]; rfl) hs

theorem bys_new (w : World) (xs : List Int) (hb : ∀ b ∈ xs, 0 ≤ b ∧ b ≤ 255) (hl : xs.length ≤ 200000000000000) : Bys (w.alloc (.cells (xs.map (Value.int .u8)).toArray 5)) (some ⟨w.heap.size, 0, none⟩) xs.length xs := by
  refine ⟨Nat.le_refl _, hl, hb, Or.inr ⟨w.heap.size, 0, rfl, by simp, fun i hi => ?_⟩⟩
  rw [Nat.zero_add, World.cell?_alloc_at _ _ _ _ rfl]
  simp [List.getD_eq_getElem?_getD, hi]

def ReadAt (k : Int) (L : List (List Int)) (n : Int) (w : World) (e : Ending) (w' : World) : Prop :=
  ∃ y q, e = .returned (.tuple #[.slice y L.length q, .int .i64 n, errV k]) ∧ Strs w' y q (L.map strOfNums) ∧ Below w.heap.size w w' ∧ ∀ a, y = some a → w.heap.size ≤ a.block

theorem readAt_ok {L : List (List Int)} {n : Int} {w w' : World} {e : Ending} (h : ReadAt 0 L n w e w') : ∃ y q, e = .returned (.tuple #[.slice y L.length q, .int .i64 n, .nilIface]) ∧ Strs w' y q (L.map strOfNums) ∧ Below w.heap.size w w' := by
  obtain ⟨y, q, h1, h2, h3, _⟩ := h
  exact ⟨y, q, h1, h2, h3⟩

theorem readAt_new {L : List (List Int)} {n : Int} {w w' : World} {e : Ending} (h : ReadAt 0 L n w e w') : ∃ y q, e = .returned (.tuple #[.slice y L.length q, .int .i64 n, .nilIface]) ∧ Strs w' y q (L.map strOfNums) ∧ Below w.heap.size w w' ∧ ∀ a, y = some a → w.heap.size ≤ a.block := h

/-- A row of the call's own that was there ahead of a list of labels grows: the labels stay. -/
theorem Strs.grown {w0 w w' : World} {x : Option Addr} {c B e n : Nat} {ss : List ByteArray} {v : Value} {xs : List Value} (h : Strs w x c ss) (hf : ∀ a, x = some a → w0.heap.size ≤ a.block) (hr : w0.ownsRow B e 1 v n xs) (g : w.grownBy w' v.ownBlock) : Strs w' x c ss := by
  obtain ⟨h1, h2, h3, h4⟩ := h
  refine ⟨h1, h2, h3, ?_⟩
  rcases h4 with h4 | ⟨b, off, hx, hb, hc⟩
  · exact Or.inl h4
  · refine Or.inr ⟨b, off, hx, Nat.lt_of_lt_of_le hb g.size, fun i hi => ?_⟩
    have hne : some b ≠ v.ownBlock := by
      intro q
      have l1 := (World.ownsRow.lt hr b q.symm).2
      have l2 := hf _ hx
      simp only at l2
      omega
    have := g.block b hb hne
    rw [← hc i hi]
    simp only [World.cell?, this]

theorem readAt_no {k : Int} {n : Int} {w w' : World} {e : Ending} (h : ReadAt k [] n w e w') (hk : ¬ k = 0) : ∃ y q, e = .returned (.tuple #[.slice y 0 q, .int .i64 n, .iface 52 (.int .i64 k)]) ∧ Below w.heap.size w w' := by
  obtain ⟨y, q, h1, _, h3, _⟩ := h
  rw [errV_some hk] at h1
  exact ⟨y, q, h1, h3⟩

theorem readW_norm {ms : List Int} {at0 : Int} {k : Int} {L : List (List Int)} {n : Nat} (h : readW ms at0 = (k, L, n)) (hk : ¬ k = 0) : L = [] ∧ n = 0 := by
  unfold readW at h
  by_cases c : at0 < 0
  · rw [if_pos c] at h
    simp only [Prod.mk.injEq] at h
    exact ⟨h.2.1.symm, h.2.2.symm⟩
  · rw [if_neg c] at h
    have := Nm.rdA_norm ms at0.toNat at0.toNat 1
    rw [h] at this
    have := this hk
    simp only [Prod.mk.injEq, true_and] at this
    exact this

theorem readW_ok {ms : List Int} {at0 : Int} {L : List (List Int)} {n : Nat} (h : readW ms at0 = (0, L, n)) : 0 ≤ at0 ∧ Nm.rdA ms at0.toNat at0.toNat 1 = (0, L, n) := by
  unfold readW at h
  by_cases c : at0 < 0
  · rw [if_pos c] at h
    simp at h
  · rw [if_neg c] at h
    exact ⟨by omega, h⟩

/-- A name that is read may be, and ends within the message. -/
theorem readW_may {ms : List Int} (hb : ∀ b ∈ ms, 0 ≤ b ∧ b ≤ 255) {at0 : Int} {L : List (List Int)} {n : Nat} (h : readW ms at0 = (0, L, n)) :
    0 ≤ at0 ∧ at0 < (n : Int) ∧ n ≤ ms.length ∧ Nm.checkN L = 0 ∧ ∀ l ∈ L, ∀ x ∈ l, 0 ≤ x ∧ x ≤ 255 := by
  obtain ⟨h0, h1⟩ := readW_ok h
  obtain ⟨a1, a2, a3, a4, a5⟩ := Nm.rdA_may hb h1 (by omega)
  refine ⟨h0, by omega, a4, ?_, a5⟩
  unfold Nm.checkN
  rw [if_pos a1, if_neg (by omega)]

theorem readW_behind {ms : List Int} (more : List Int) {at0 : Int} {L : List (List Int)} {n : Nat} (h : readW ms at0 = (0, L, n)) : readW (ms ++ more) at0 = (0, L, n) := by
  obtain ⟨h0, h1⟩ := readW_ok h
  unfold readW
  rw [if_neg (by omega)]
  exact Nm.rdA_behind more h1

theorem fact_write : ([] : List Int) ++ Nm.sentL ([(⟨#[97]⟩ : ByteArray)].map Nm.bs) ++ [0] = [1, 97, 0] := by decide +kernel
theorem fact_check : Nm.checkN ([(⟨#[97]⟩ : ByteArray)].map Nm.bs) = 0 := by decide +kernel

/-- Nothing appended. -/
theorem run_append_none {t e : TypeId} {i : TypeInfo} (ht : Try.prog.underlying t = some (.slice e)) (hi : Try.prog.info? e = some i) (w : World) (ty : TypeId) (b off n cap : Nat) (hc : n ≤ cap) :
    (Builtin.append_ #[t, t] ty #[.slice (some ⟨b, off, none⟩) n cap, .slice none 0 0]).run Try.prog w = .ok (.slice (some ⟨b, off, none⟩) n cap) w := by
  have h := run_append_room_src (P := Try.prog) w t t ty e i ht hi b off n cap (.slice none 0 0) 0 [] (Src.ofNil w ht 0) (by omega) (by simp) (by simp)
  simpa [World.setCells] using h

theorem wpList_append_none {w : World} {ops : Array Oper} {rest : List Oper} {o : Oper} {a : Act} {Q : Exit → Act → World → Prop} (hgd : o.guard = none) (sl x : Operand) (t : TypeId)
    (ho : o.op = .call { callee := .builtin .append, args := #[sl, x], argTypes := #[t, t] }) (v : Value) (hs : a.eval sl = v) (hx : a.eval x = .slice none 0 0)
    (hr : (Builtin.append_ #[t, t] o.type #[v, .slice none 0 0]).run Try.prog w = .ok v w)
    (h : wpList Try.prog ops Q rest (a.put o.dst v) w) : wpList Try.prog ops Q (o :: rest) a w := by
  refine wpList_plain hgd fun K hK => ?_
  unfold Oper.wp execOp
  simp only [ho, resolve, invoke, builtin, Sem.run_bind, Sem.run_pure, Result.andThen_ok, List.map_toArray, List.map_cons, List.map_nil, hs, hx, hr]
  exact hK _ _ h

end Go.Proofs.Ytnbabdfcamdapaa
